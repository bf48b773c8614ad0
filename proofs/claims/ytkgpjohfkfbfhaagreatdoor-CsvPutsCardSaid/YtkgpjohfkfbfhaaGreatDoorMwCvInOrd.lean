/- csv: inOrder sorts a row of edges of one's own. No conditions. · csv: what a file reads as: a tree, or the line at which it is none. No conditions. · csv: the fields of a line, read from the left, one behind the other: as parted by widths. No conditions. · strings.IndexRune in the text of a quote and a comma at a rune from 128 on: there is none. · strings.IndexAny of a quote or a comma in a text of any bytes, eight at most: where the first one stands, or there is none. · csv: a field written anew; all of a row's. Conditions: texts of ASCII bytes; MaxLen's cell. -/
import Derived.Test.YtkgpjohfkfbfhaaGreatDoorMwEdg
import Derived.Lib.OwnBridge
import Derived.Lib.AppendIntMem
import Derived.Outline
import Derived.Test.YtkgpjohfkfbfhaaGreatDoorMwCvFlds
import Derived.Lib.Replace
import Derived.Lib.CountLaws
import Derived.Test.YtkgpjohfkfbfhaaGreatDoorMwChkP
import Derived.Laws.RangeAny
import Derived.Laws.Runes
import Derived.WalkMore
import Derived.BigQuiet
import Derived.Shelf.Small.Utf8
import Derived.Lib.OthersKept
import Derived.Lib.IndexAny
import Derived.Shelf.Strings.IndexAnyAll
namespace Go.Proofs.YtkgpjohfkfbfhaaGreatDoor.Cv
open Go.RowKit Go.Proofs.YtkgpjohfkfbfhaaGreatDoor.Jd Go.Proofs.YtkgpjohfkfbfhaaGreatDoor.Li Go.Proofs.YtkgpjohfkfbfhaaGreatDoor.Cl
set_option maxRecDepth 100000

theorem ownsRow_put2 {w : World} {base : Nat} {e : TypeId} {g n cap q : Nat} {xs : List Value} {F : Array Value} (h : w.ownsRow base e 2 (.slice (some ⟨g, 0, none⟩) n cap) n xs) (hF : F.size = n * 2) :
    (Sort.putRow id (Sort.ahead w q) g 0 F).ownsRow base e 2 (.slice (some ⟨g, 0, none⟩) n cap) n F.toList := by
  rcases h.2 with ⟨e0, _⟩ | ⟨g', cap', cur, e0, hb, hg, hn, hm, hs, ht⟩
  · cases e0
  · injection e0 with e1 _ e3
    injection e1 with e1
    injection e1 with e1
    subst e1; subst e3
    refine ⟨by simpa using hF, .inr ⟨g, cap, Sort.putCells id 0 F cur, rfl, hb, ?_, hn, hm, by simpa [Sort.putCells] using hs, ?_⟩⟩
    · simp [Sort.putRow, Sort.mapBlock, Sort.ahead, Array.getElem?_modify, hg, Sort.onCells]
    · apply List.ext_getElem?
      intro j
      rw [List.getElem?_take, Array.getElem?_toList, Array.getElem?_toList]
      by_cases hj : j < n * 2
      · have hjc : j < cur.size := by omega
        have hjF : j < F.size := by omega
        simp only [if_pos hj, Sort.putCells, Array.getElem?_mapIdx, Array.getElem?_eq_getElem hjc, Array.getElem?_eq_getElem hjF, Option.map_some]
        rw [if_pos (by omega)]
        simp [getElem!_pos, hjF]
      · rw [if_neg hj, Array.getElem?_eq_none (by omega)]

theorem edg_sorted {t : Tr} {vs : List Value} {w : World} {base g n cap : Nat} (h : Edg w base base (some ⟨g, 0, none⟩) n cap t vs) (hB : base ≤ w.heap.size) (hgb : base ≤ g) (D : Array Nat) (hD : D.size = n) (hi : ∀ i ∈ D.toList, i < t.len) (m : Nat) (os : Array Obj) :
    Edg (sortWorldK (encE t vs) 2 w g 0 m D os) base base (some ⟨g, 0, none⟩) n cap (ofI t D.toList) (celI t vs D.toList) ∧ Below base w (sortWorldK (encE t vs) 2 w g 0 m D os) := by
  have own1 := ownsRow_put2 (q := m) (F := Sort.flatK (encE t vs) 2 D) h.own (by simp [hD])
  rw [flatE] at own1
  have own2 := Lib.ownsRow_grow own1 0 os
  have b1 : Below base w (Sort.putRow id (Sort.ahead w m) g 0 (Sort.flatK (encE t vs) 2 D)) := Lib.below_putRow (Below.refl base w) hgb
  have b2 := Lib.below_grow (Sort.putRow id (Sort.ahead w m) g 0 (Sort.flatK (encE t vs) 2 D)).heap.size (Sort.putRow id (Sort.ahead w m) g 0 (Sort.flatK (encE t vs) 2 D)) (Nat.le_refl _) 0 os
  have b3 := Lib.below_grow base (Sort.putRow id (Sort.ahead w m) g 0 (Sort.flatK (encE t vs) 2 D)) (Nat.le_trans hB b1.size) 0 os
  refine ⟨⟨own2, ?_⟩, b1.trans b3⟩
  refine ((rowP_ofI h.row hi).keep (w' := sortWorldK (encE t vs) 2 w g 0 m D os) fun b o hb => ?_).more fun b hb => ⟨hb.1, Nat.lt_of_lt_of_le hb.2.1 (Nat.le_trans b1.size b3.size), hb.2.2⟩
  have hne : b ≠ g := fun e => hb.2.2 (by rw [e]; rfl)
  have e1 := b2.cell (p := ⟨b, o, none⟩) (Nat.lt_of_lt_of_le hb.2.1 b1.size)
  have e2 := Sort.cell?_putRow_other id (Sort.ahead w m) g 0 (Sort.flatK (encE t vs) 2 D) ⟨b, o, none⟩ (Or.inl hne)
  exact e1.trans e2

theorem pdq_mem (t : Tr) : (Sort.pdq (ltOf (cfE t)) (Array.range t.len) 0 t.len (Lib.bitLen t.len) true true).size = t.len ∧ (Sort.pdq (ltOf (cfE t)) (Array.range t.len) 0 t.len (Lib.bitLen t.len) true true).toList.Perm (List.range t.len) ∧ Sort.SortedIn (ltOf (cfE t)) 0 t.len (Sort.pdq (ltOf (cfE t)) (Array.range t.len) 0 t.len (Lib.bitLen t.len) true true) := by
  have hs := Sort.pdq_sorts (ltOf (cfE t)) (swoE t) (Array.range t.len) 0 t.len (Lib.bitLen t.len) true true (Nat.zero_le _) (by simp) (Or.inl rfl)
  obtain ⟨⟨h1, _, h3⟩, h4⟩ := hs
  have h1' : (Sort.pdq (ltOf (cfE t)) (Array.range t.len) 0 t.len (Lib.bitLen t.len) true true).size = t.len := by simpa using h1
  refine ⟨h1', ?_, h4⟩
  have ex : ∀ (d : Array Nat) (n : Nat), d.size = n → d.extract 0 n = d := fun d n h => by subst h; simp
  have e1 := ex _ _ h1'
  have e2 := ex (Array.range t.len) t.len (by simp)
  rw [e1, e2] at h3
  simpa using h3
theorem srtE_nil : srtE .nil = .nil := by
  have h := (pdq_mem .nil).1
  unfold srtE
  generalize Sort.pdq (ltOf (cfE .nil)) (Array.range (Tr.len .nil)) 0 (Tr.len .nil) (Lib.bitLen (Tr.len .nil)) true true = D at h ⊢
  have h' : D.size = 0 := h
  have e : D.toList = [] := List.eq_nil_of_length_eq_zero (by simpa using h')
  rw [e]; rfl

set_option maxHeartbeats 2000000 in
theorem sortEdge_none (fv : Value) (w : World) : Calls Tryz.prog 120 #[.slice none 0 0, fv] w fun e w' => e = .returned (.tuple #[]) ∧ w' = w := by
  have HP := Lib.hid (fun lim W => AnyF.pdqsortCmpFunc_none Tryz.sortEdge none 0 lim fv W)
  have HL := Lib.hid (Tryz.bits_Len 0 w (by omega) (by omega))
  go_enter Tryz.func120, Tryz.ntmps120
  go_wp2_with fail
  (with_reducible refine HL.out.mono ?_)
  rintro e w' ⟨rfl, rfl⟩
  go_wp2_with fail
  refine (HP.out _ _).mono ?_
  rintro e w' ⟨rfl, rfl⟩
  go_wp2_with fail
  go_end0
  exact ⟨rfl, rfl⟩

set_option maxHeartbeats 4000000 in
theorem inOrd_E : InOrd srtE := by
  intro t A n c base vs w h hB hn
  have hlen := h.len
  have hC : ∃ vs', Calls Tryz.prog 120 #[.slice A n c, .func (.func 121) #[] #[]] w fun e w' => e = .returned (.tuple #[]) ∧ Edg w' base base A n c (srtE t) vs' ∧ Below base w w' := by
    rcases h.own.2 with ⟨e0, e2⟩ | ⟨g, cap', cur, e0, hb, hg, hnc, hm, hs, ht⟩
    · injection e0 with e1 _ e3
      subst e1; subst e2; subst e3
      have et : t = .nil := by cases t with
        | nil => rfl
        | cons _ _ _ => simp [Tr.len] at hlen
      subst et
      refine ⟨[], (sortEdge_none _ w).mono ?_⟩
      rintro e w' ⟨rfl, rfl⟩
      exact ⟨rfl, by rw [srtE_nil]; exact Edg.nil _ _ _, Below.refl _ _⟩
    · injection e0 with e1 _ e3
      subst e1; subst e3
      have hgs : g < w.heap.size := (Array.getElem?_eq_some_iff.1 hg).1
      have hH : Sort.HoldsK (encE t vs) 2 w g 0 (Array.range t.len) := by
        intro j hj
        have hj' : j < t.len * 2 := by simpa using hj
        refine ⟨?_, by simp [World.frozen?, hg]⟩
        have e1 := rowCells h.own j _ (rowP_cel h.row j hj')
        rw [Addr.add_lit] at e1
        rw [e1, Sort.get_flatK _ _ _ _ (by simpa using hj')]
        rw [getElem!_pos (Array.range t.len) (j / 2) (by simp; omega)]
        simp
      have eg : ∀ args w, (callFunc 121 args).run Tryz.prog w = .ok (.enter 121 args) w := enters_of Tryz.func121 (by kernel_rfl) rfl
      have hcmp : CmpLays Tryz.prog 121 #[] (encE t vs) 2 (cfE t) g 0 (Array.range t.len).size w := by
        intro m os dk _ x y
        obtain ⟨A1, n1, c1, h1⟩ := slE_form vs x
        obtain ⟨A2, n2, c2, h2⟩ := slE_form vs y
        simp only [encE, h1, h2]
        refine (cmp1_any (nmE t x) (nmE t y) A1 A2 n1 c1 n2 c2 _).mono ?_
        rintro e w' ⟨rfl, rfl⟩
        exact ⟨rfl, 0, _, by rw [Sort.alloc_eq_grow, Sort.alloc_eq_grow, Sort.grow_grow]; rfl⟩
      have hc := sortEdge_eq (encE t vs) (fun _ => rfl) (fun x v hv => by
        obtain ⟨A1, n1, c1, h1⟩ := slE_form vs x
        simp only [encE, h1, List.mem_cons, List.not_mem_nil, or_false] at hv
        rcases hv with rfl | rfl <;> rfl) (cfE t) (swoE t) 121 #[] g 0 c (Array.range t.len) w eg hcmp hH hgs (by simp; omega)
      rw [Array.size_range] at hc
      subst hlen
      obtain ⟨p1, p2, _⟩ := pdq_mem t
      refine ⟨celI t vs (Sort.pdq (ltOf (cfE t)) (Array.range t.len) 0 t.len (Lib.bitLen t.len) true true).toList, hc.mono ?_⟩
      rintro e w' ⟨rfl, m, os, rfl⟩
      exact ⟨rfl, edg_sorted h hB hb _ p1 (fun i hi => by have := p2.mem_iff.1 hi; simpa using this) m os⟩
  obtain ⟨vs', hC⟩ := hC
  have HC := Lib.hid hC
  clear hC hlen h
  go_enter Tryz.func84, Tryz.ntmps84
  go_wp2_with fail
  (with_reducible refine HC.out.mono ?_)
  rintro e w' ⟨rfl, h1, h2⟩
  go_wp2_with fail
  go_ret
  exact ⟨vs', rfl, h1, h2⟩
end Go.Proofs.YtkgpjohfkfbfhaaGreatDoor.Cv
namespace Go.Proofs.YtkgpjohfkfbfhaaGreatDoor.Cv
open Go.RowKit Go.Sort Go.Proofs.YtkgpjohfkfbfhaaGreatDoor.Jd Go.Proofs.YtkgpjohfkfbfhaaGreatDoor.Li Go.Proofs.YtkgpjohfkfbfhaaGreatDoor.Cl
set_option maxRecDepth 100000

theorem size_ofI (t : Tr) : ∀ is : List Nat, (ofI t is).size = (is.map fun i => (kdE t i).size + 1).sum
  | [] => rfl
  | i :: r => by simp only [ofI, Tr.size, List.map_cons, List.sum_cons, size_ofI t r]; omega
theorem size_all : ∀ t : Tr, t.size = ((List.range t.len).map fun i => (kdE t i).size + 1).sum
  | .nil => rfl
  | .cons s k r => by
    rw [Tr.size, Tr.len, List.range_succ_eq_map, List.map_cons, List.map_map, List.sum_cons, size_all r]
    simp only [kdE, Function.comp_def]
    omega
theorem srtE_size (t : Tr) : (srtE t).size = t.size := by
  rw [srtE, size_ofI, size_all t]
  exact ((pdq_mem t).2.1.map _).sum_nat
theorem nm_at : ∀ (t : Tr) (i : Nat), Tr.Nm t → (nmE t i).size ≤ 140737488351232 ∧ Tr.Nm (kdE t i)
  | .nil, _, _ => ⟨by simp [nmE], trivial⟩
  | .cons _ _ _, 0, h => ⟨h.1, h.2.1⟩
  | .cons _ _ r, i + 1, h => nm_at r i h.2.2
theorem nm_ofI (t : Tr) (h : Tr.Nm t) : ∀ is : List Nat, Tr.Nm (ofI t is)
  | [] => trivial
  | i :: r => ⟨(nm_at t i h).1, (nm_at t i h).2, nm_ofI t h r⟩
theorem srtE_nm (t : Tr) (h : Tr.Nm t) : Tr.Nm (srtE t) := nm_ofI t h _
theorem srtE_one {t : Tr} (h : t.len ≤ 1) : srtE t = t := by
  have hp := (pdq_mem t).2.1
  unfold srtE
  match t, h with
  | .nil, _ => exact srtE_nil
  | .cons s k .nil, _ =>
    have e : (pdq (ltOf (cfE (.cons s k .nil))) (Array.range (Tr.cons s k .nil).len) 0 (Tr.cons s k .nil).len (Lib.bitLen (Tr.cons s k .nil).len) true true).toList = [0] := List.perm_singleton.1 hp
    rw [e]
    rfl
  | .cons _ _ (.cons _ _ _), h => simp [Tr.len] at h
theorem cB_size {z : ByteArray} (h : cB z = true) : z.size ≤ 80 := by
  simp only [cB, nB, vB, Bool.and_eq_true, decide_eq_true_eq] at h
  exact h.1.2.1
theorem vB_size {z : ByteArray} (h : vB z = true) : z.size ≤ 80 := by
  simp only [vB, Bool.and_eq_true, decide_eq_true_eq] at h
  exact h.1
/-- Rows without a fault. -/
def RowsOk : List Rw → Prop
  | [] => True
  | h :: t => h.fs ≠ [] ∧ h.fs.length ≤ 4001 ∧ (∀ z ∈ (mns h.fs).tail, z.size ≤ 80) ∧ ∀ r ∈ t, r.fs.length = h.fs.length ∧ ∀ z ∈ mns r.fs, z.size ≤ 80
theorem rows_push {acc : List Rw} {x : Ln} (h : RowsOk acc) (hx : x.1.length ≤ 4000) (hf : ¬ faultF acc (rowF x) ≠ 0) : RowsOk (acc ++ [rowF x]) := by
  have h0 := fault_fs hf
  have hl := fldsL_len x.1
  cases acc with
  | nil =>
    refine ⟨h0, by show (fldsL x.1).length ≤ 4001; omega, ?_, fun r hr => by cases hr⟩
    intro z hz
    unfold faultF at hf
    rw [if_neg h0] at hf
    show z.size ≤ 80
    cases hm : mns (rowF x).fs with
    | nil => rw [hm] at hz; cases hz
    | cons m cols =>
      rw [hm] at hz
      simp only [hm, headF] at hf
      split at hf
      · exact absurd (by decide) hf
      · split at hf
        · exact absurd (by decide) hf
        · rename_i _ hc
          have hc : cols.all cB = true := by simpa using hc
          exact cB_size (List.all_eq_true.1 hc z hz)
  | cons a t =>
    obtain ⟨h1, h2, h3, h4⟩ := h
    refine ⟨h1, h2, h3, fun r hr => ?_⟩
    rcases List.mem_append.1 hr with hr | hr
    · exact h4 r hr
    · obtain rfl : r = rowF x := by simpa using hr
      unfold faultF at hf
      rw [if_neg h0] at hf
      simp only at hf
      split at hf
      · exact absurd (by decide) hf
      · split at hf
        · exact absurd (by decide) hf
        · split at hf
          · exact absurd (by decide) hf
          · rename_i e1 _ e2
            have e2 : (mns (rowF x).fs).all vB = true := by simpa using e2
            exact ⟨Decidable.not_not.1 e1, fun z hz => vB_size (List.all_eq_true.1 e2 z hz)⟩
theorem rowsF_ok : ∀ (ls : List Ln) (acc : List Rw) (i : Nat), RowsOk acc → (∀ x ∈ ls, x.1.length ≤ 4000) → RowsOk (rowsF acc i ls).1 ∧ (rowsF acc i ls).1.length ≤ acc.length + ls.length ∧ ((rowsF acc i ls).2.2 = 0 → ls ≠ [] → (rowsF acc i ls).1 ≠ [])
  | [], acc, i, h, _ => ⟨h, by simp [rowsF], fun _ h => absurd rfl h⟩
  | x :: r, acc, i, h, hz => by
    rw [rowsF]
    split
    · rename_i hf
      exact ⟨trivial, Nat.zero_le _, fun h _ => absurd h hf⟩
    · rename_i hf
      obtain ⟨a, b, c⟩ := rowsF_ok r (acc ++ [rowF x]) (i + 1) (rows_push h (hz x (by simp)) hf) (fun y hy => hz y (by simp [hy]))
      refine ⟨a, by simp at b ⊢; omega, fun h0 _ => ?_⟩
      by_cases hr : r = []
      · subst hr; simp [rowsF]
      · exact c h0 hr
theorem rawB_ok : ∀ (cols vs : List ByteArray), (∀ z ∈ cols, z.size ≤ 80) → (∀ z ∈ vs, z.size ≤ 80) → Tr.Nm (rawB cols vs) ∧ (rawB cols vs).size ≤ 2 * cols.length
  | [], vs, _, _ => by unfold rawB; exact ⟨trivial, Nat.zero_le _⟩
  | c :: cs, [], _, _ => by unfold rawB; exact ⟨trivial, Nat.zero_le _⟩
  | c :: cs, v :: vs, h1, h2 => by
    obtain ⟨a, b⟩ := rawB_ok cs vs (fun z hz => h1 z (by simp [hz])) (fun z hz => h2 z (by simp [hz]))
    have hc := h1 c (by simp)
    have hv := h2 v (by simp)
    rw [rawB]
    split
    · exact ⟨a, by simp only [List.length_cons]; omega⟩
    · exact ⟨⟨by omega, ⟨by omega, trivial, trivial⟩, a⟩, by simp only [List.length_cons, Tr.size]; omega⟩
theorem recs_ok (cols : List ByteArray) (hc : ∀ z ∈ cols, z.size ≤ 80) : ∀ (rs : List Rw), (∀ r ∈ rs, ∀ z ∈ mns r.fs, z.size ≤ 80) → Tr.Nm (recsT srtE cols rs) ∧ (recsT srtE cols rs).size ≤ rs.length * (2 * cols.length + 1)
  | [], _ => ⟨trivial, Nat.zero_le _⟩
  | r :: rs, h => by
    obtain ⟨a, b⟩ := recs_ok cols hc rs (fun q hq => h q (by simp [hq]))
    have hm := h r (by simp)
    obtain ⟨a2, b2⟩ := rawB_ok cols (mns r.fs.tail) hc (fun z hz => hm z (by
      cases hf : r.fs with
      | nil => rw [hf] at hz; cases hz
      | cons x l => rw [hf] at hz; exact List.mem_cons_of_mem _ hz))
    have hn : (nm r).size ≤ 80 := by
      unfold nm
      cases hf : mns r.fs with
      | nil => exact Nat.zero_le _
      | cons z l => exact hm z (by rw [hf]; simp)
    have e := srtE_size (rawB cols (mns r.fs.tail))
    refine ⟨⟨by omega, srtE_nm _ a2, a⟩, ?_⟩
    simp only [recsT, Tr.size, List.length_cons, Nat.add_mul]
    omega
/-- The columns of a head. -/
def colsR (h : Rw) : List ByteArray := mns h.fs.tail
/-- What rows say. -/
def treeR : List Rw → Tr
  | [] => .nil
  | h :: t => srtE (recsT srtE (colsR h) t)
/-- What a file reads as: its tree, or the line, and the error. -/
def readF (l : Bs) : Tr × Nat × Int :=
  if 4000 < l.length then (.nil, 0, 5) else
  if (rowsF [] 0 (split l)).2.2 ≠ 0 then (.nil, (rowsF [] 0 (split l)).2.1, (rowsF [] 0 (split l)).2.2) else
  match (rowsF [] 0 (split l)).1 with
  | [] => (.nil, 0, 2)
  | h :: t => if (treeR (h :: t)).fault ≠ 0 then (.nil, 0, ((treeR (h :: t)).fault : Nat)) else (treeR (h :: t), 0, 0)
theorem treeR_ok {h : Rw} {t : List Rw} (hk : RowsOk (h :: t)) (hl : t.length ≤ 5000) : Tr.Nm (treeR (h :: t)) ∧ (treeR (h :: t)).size ≤ 17179869184 := by
  obtain ⟨h1, h2, h3, h4⟩ := hk
  have hc : ∀ z ∈ colsR h, z.size ≤ 80 := fun z hz => h3 z (by
    unfold colsR at hz
    cases hf : h.fs with
    | nil => rw [hf] at hz; cases hz
    | cons x l => rw [hf] at hz; exact hz)
  have hcl : (colsR h).length ≤ 4001 := by unfold colsR; rw [mns_len]; simp; omega
  obtain ⟨a, b⟩ := recs_ok (colsR h) hc t (fun r hr => (h4 r hr).2)
  refine ⟨srtE_nm _ a, ?_⟩
  show (srtE _).size ≤ _
  rw [srtE_size]
  have : t.length * (2 * (colsR h).length + 1) ≤ 5000 * 8003 := Nat.mul_le_mul hl (by omega)
  omega
theorem spl_lens : ∀ (r cur : Bs) (x : Ln), x ∈ spl cur r → x.1.length ≤ cur.length + r.length := fun r cur x hx => by
  have hj := join_spl r cur
  have : ∀ (l : List Ln) (x : Ln), x ∈ l → x.1.length ≤ (join l).length := by
    intro l
    induction l with
    | nil => intro x hx; cases hx
    | cons y l ih =>
      intro x hx
      simp only [join, List.length_append]
      rcases List.mem_cons.1 hx with rfl | hx
      · omega
      · have := ih x hx; omega
  have h := this _ x hx
  rw [hj, List.length_append] at h
  exact h
theorem split_lens (l : Bs) : ∀ x ∈ split l, x.1.length ≤ l.length := fun x hx => by
  have := spl_lens l [] x hx
  simpa using this
end Go.Proofs.YtkgpjohfkfbfhaaGreatDoor.Cv
namespace Go.Proofs.YtkgpjohfkfbfhaaGreatDoor.Cv
open Go.RowKit Go.Proofs.YtkgpjohfkfbfhaaGreatDoor.Jd Go.Proofs.YtkgpjohfkfbfhaaGreatDoor.Li
set_option maxRecDepth 100000

/-- Pairs of quotes written over by this, from the left. -/
def rp (x : List UInt8) : List UInt8 → List UInt8
  | [] => []
  | [c] => [c]
  | c :: d :: r => if c = 34 ∧ d = 34 then x ++ rp x r else c :: rp x (d :: r)
theorem rp_pair (x r : List UInt8) : rp x (34 :: 34 :: r) = x ++ rp x r := by rw [rp, if_pos ⟨rfl, rfl⟩]
theorem rp_other (x r : List UInt8) {c : UInt8} (h : c ≠ 34) : rp x (c :: r) = c :: rp x r := by
  cases r with
  | nil => rfl
  | cons d r => rw [rp, if_neg (fun e => h e.1)]
theorem rp_lone (x r : List UInt8) {c : UInt8} (h : c ≠ 34) : rp x (34 :: c :: r) = 34 :: rp x (c :: r) := by rw [rp, if_neg (fun e => h e.2)]
theorem rp_miss (x : List UInt8) : ∀ s : List UInt8, Lib.index s [34, 34] = -1 → rp x s = s
  | [], _ => rfl
  | [c], _ => rfl
  | c :: d :: r, h => by
    rw [Lib.index] at h
    split at h
    · exact absurd h (by decide)
    · rename_i hp
      have h2 : Lib.index (d :: r) [34, 34] = -1 := by
        split at h
        · rename_i e; exact beq_iff_eq.1 e
        · rename_i e
          have := Lib.index_ge (d :: r) [34, 34]
          have : Lib.index (d :: r) [34, 34] ≠ -1 := fun e2 => e (beq_iff_eq.2 e2)
          omega
      rw [rp, if_neg (fun e => hp (by rw [e.1, e.2]; rfl)), rp_miss x (d :: r) h2]
theorem rp_hit (x : List UInt8) : ∀ (s : List UInt8) (i : Nat), Lib.index s [34, 34] = i → rp x s = s.take i ++ x ++ rp x (s.drop (i + 2))
  | [], i, h => by simp [Lib.index] at h
  | [c], i, h => by
    simp [Lib.index] at h
  | c :: d :: r, i, h => by
    rw [Lib.index] at h
    split at h
    · rename_i hp
      have hp' : c = 34 ∧ d = 34 := by
        have h1 : ((34 == c) && ((34 == d) && true)) = true := by simpa [List.isPrefixOf] using hp
        rw [Bool.and_eq_true, Bool.and_eq_true] at h1
        exact ⟨(beq_iff_eq.1 h1.1).symm, (beq_iff_eq.1 h1.2.1).symm⟩
      obtain rfl : i = 0 := by omega
      rw [rp, if_pos hp']
      rfl
    · rename_i hp
      split at h
      · omega
      · rename_i e
        obtain ⟨j, rfl⟩ : ∃ j, i = j + 1 := by
          cases i with
          | zero => exact absurd h (by have := Lib.index_ge (d :: r) [34, 34]; have : Lib.index (d :: r) [34, 34] ≠ -1 := fun e2 => e (beq_iff_eq.2 e2); omega)
          | succ j => exact ⟨j, rfl⟩
        rw [rp, if_neg (fun e => hp (by rw [e.1, e.2]; rfl)), rp_hit x (d :: r) j (by omega)]
        rfl
theorem replaceK_rp (x : List UInt8) : ∀ (n : Nat) (s : List UInt8), s.length ≤ n → Lib.replaceK [34, 34] x (Lib.count s [34, 34]) s = rp x s := by
  intro n
  induction n with
  | zero =>
    intro s h
    obtain rfl : s = [] := List.eq_nil_of_length_eq_zero (by omega)
    rw [Lib.count_miss (by rfl)]
    rfl
  | succ n ih =>
    intro s h
    by_cases hm : Lib.index s [34, 34] = -1
    · rw [Lib.count_miss hm, rp_miss x s hm]
      rfl
    · obtain ⟨i, hi⟩ : ∃ i : Nat, Lib.index s [34, 34] = i := ⟨(Lib.index s [34, 34]).toNat, by have := Lib.index_ge s [34, 34]; omega⟩
      have hc := Lib.count_hit (sub := [34, 34]) (by simp) hi
      rw [hc, Nat.add_comm, Lib.replaceK_hit _ _ _ _ _ hi, rp_hit x s i hi]
      simp only [List.length_cons, List.length_nil, Nat.zero_add, Nat.reduceAdd]
      have hs : s ≠ [] := fun e => hm (by rw [e]; rfl)
      have hl : 0 < s.length := List.length_pos_iff.2 hs
      rw [ih (s.drop (i + 2)) (by rw [List.length_drop]; omega)]
theorem replaceAll_rp (x s : List UInt8) (hx : ([34, 34] == x) = false) : Lib.replaceAll s [34, 34] x = rp x s := by
  unfold Lib.replaceAll Lib.replace
  rw [hx, if_neg (by decide), Lib.replaceNum, if_pos (.inl (by decide)), replaceK_rp x _ s (Nat.le_refl _)]
theorem indexByte_mem (c : UInt8) : ∀ l : List UInt8, decide (0 ≤ Lib.indexByte l c) = l.contains c
  | [] => rfl
  | b :: l => by
    have ih := indexByte_mem c l
    have hg := Lib.indexByte_ge l c
    rw [Lib.indexByte, List.contains_cons]
    by_cases hb : b = c
    · subst hb; simp
    · have e1 : (b == c) = false := beq_eq_false_iff_ne.2 hb
      have e2 : (c == b) = false := beq_eq_false_iff_ne.2 (fun e => hb e.symm)
      rw [if_neg (by rw [e1]; decide), e2, Bool.false_or, ← ih]
      by_cases hm : Lib.indexByte l c = -1
      · rw [if_pos (beq_iff_eq.2 hm), hm]
      · rw [if_neg (fun e => hm (beq_iff_eq.1 e))]
        rw [decide_eq_true (by omega), decide_eq_true (by omega)]
/-- Behind an opening quote: what it means, and how many bytes to behind the closing one. -/
def qin : Bs → Option (Bs × Nat)
  | [] => none
  | [c] => if c = 34 then some ([], 1) else none
  | c :: d :: r => if c = 34 then (if d = 34 then (qin r).map (fun p => (34 :: p.1, p.2 + 2)) else if d = 44 then some ([], 1) else none) else (qin (d :: r)).map (fun p => (c :: p.1, p.2 + 1))
/-- A field without quotes. -/
def pln : Bs → Option Nat
  | [] => some 0
  | c :: r => if c = 44 then some 0 else if c = 34 then none else (pln r).map (· + 1)
/-- The first field: what it means, its width. -/
def oneF : Bs → Option (Bs × Nat)
  | [] => some ([], 0)
  | c :: r => if c = 34 then (qin r).map (fun p => (p.1, p.2 + 1)) else (pln (c :: r)).map (fun n => ((c :: r).take n, n))
theorem qin_other {c : UInt8} (h : c ≠ 34) (r : Bs) : qin (c :: r) = (qin r).map (fun p => (c :: p.1, p.2 + 1)) := by
  cases r with
  | nil => show qin [c] = none; rw [qin, if_neg h]
  | cons d r => rw [qin, if_neg h]
theorem wid_other {c : UInt8} (h : c ≠ 34) (r : Bs) : wid true (c :: r) = wid true r + 1 := by rw [wid, if_neg h, if_neg (by simp)]
theorem qin_some : ∀ (r v : Bs) (n : Nat), qin r = some (v, n) → n = wid true r ∧ ∃ Q, r.take n = Q ++ [34] ∧ (rp [] Q).contains 34 = false ∧ rp [34] Q = v
  | [], _, _, h => by simp [qin] at h
  | [c], v, n, h => by
    rw [qin] at h
    split at h
    · rename_i hc
      injection h with h
      injection h with h1 h2
      subst h1; subst h2; subst hc
      exact ⟨by simp [wid], [], rfl, rfl, rfl⟩
    · cases h
  | c :: d :: r, v, n, h => by
    rw [qin] at h
    split at h
    · rename_i hc
      subst hc
      split at h
      · rename_i hd
        subst hd
        cases hq : qin r with
        | none => rw [hq] at h; cases h
        | some p =>
          rw [hq] at h
          injection h with h
          injection h with h1 h2
          obtain ⟨a, Q, b1, b2, b3⟩ := qin_some r p.1 p.2 hq
          subst h1; subst h2
          refine ⟨by rw [wid, if_pos rfl, wid, if_pos rfl, a]; rfl, 34 :: 34 :: Q, ?_, ?_, ?_⟩
          · rw [List.take_succ_cons, List.take_succ_cons, b1]; rfl
          · rw [rp_pair]; exact b2
          · rw [rp_pair, b3]; rfl
      · rename_i hd
        split at h
        · rename_i hd2
          subst hd2
          injection h with h
          injection h with h1 h2
          subst h1; subst h2
          exact ⟨by simp [wid], [], rfl, rfl, rfl⟩
        · cases h
    · rename_i hc
      cases hq : qin (d :: r) with
      | none => rw [hq] at h; cases h
      | some p =>
        rw [hq] at h
        injection h with h
        injection h with h1 h2
        obtain ⟨a, Q, b1, b2, b3⟩ := qin_some (d :: r) p.1 p.2 hq
        subst h1; subst h2
        refine ⟨by rw [wid_other hc, a], c :: Q, ?_, ?_, ?_⟩
        · rw [List.take_succ_cons, b1]; rfl
        · rw [rp_other _ _ hc, List.contains_cons, b2, beq_eq_false_iff_ne.2 (fun e => hc e.symm)]; rfl
        · rw [rp_other _ _ hc, b3]
theorem tail_end {c : UInt8} {P Q : Bs} (hc : c ≠ 34) (h : c :: P = Q ++ [34]) : ∃ Q', Q = c :: Q' ∧ P = Q' ++ [34] := by
  cases Q with
  | nil => simp at h; exact absurd h.1 hc
  | cons q Q =>
    injection h with h1 h2
    exact ⟨Q, by rw [h1], h2⟩
theorem qin_none : ∀ (r : Bs), qin r = none → ∀ Q, r.take (wid true r) = Q ++ [34] → (rp [] Q).contains 34 = true
  | [], _, Q, h => by simp at h
  | [c], hn, Q, h => by
    rw [qin] at hn
    split at hn
    · cases hn
    · rename_i hc
      rw [wid_other hc] at h
      obtain ⟨Q', _, h2⟩ := tail_end hc (P := []) (by simpa [wid] using h)
      simp at h2
  | c :: d :: r, hn, Q, h => by
    rw [qin] at hn
    split at hn
    · rename_i hc
      subst hc
      split at hn
      · rename_i hd
        subst hd
        have hq : qin r = none := by simpa using hn
        rw [wid, if_pos rfl, wid, if_pos rfl, List.take_succ_cons, List.take_succ_cons] at h
        cases Q with
        | nil => simp at h
        | cons q Q =>
          injection h with h1 h2
          subst h1
          cases Q with
          | nil => rfl
          | cons q Q =>
            injection h2 with h2 h3
            subst h2
            rw [rp_pair]
            exact qin_none r hq Q h3
      · rename_i hd
        split at hn
        · cases hn
        · rename_i hd2
          rw [wid, if_pos rfl, wid, if_neg hd, if_neg (fun e => hd2 e.1), List.take_succ_cons, List.take_succ_cons] at h
          cases Q with
          | nil => simp at h
          | cons q Q =>
            injection h with h1 h2
            subst h1
            obtain ⟨Q', e, _⟩ := tail_end hd h2
            subst e
            rw [rp_lone _ _ hd, List.contains_cons]
            simp
    · rename_i hc
      have hq : qin (d :: r) = none := by simpa using hn
      rw [wid_other hc, List.take_succ_cons] at h
      obtain ⟨Q', e, h2⟩ := tail_end hc h
      subst e
      rw [rp_other _ _ hc, List.contains_cons, qin_none (d :: r) hq Q' h2]
      simp
theorem pln_some : ∀ (l : Bs) (n : Nat), pln l = some n → n = wid false l ∧ (l.take n).contains 34 = false
  | [], n, h => by injection h with h; subst h; exact ⟨rfl, rfl⟩
  | c :: r, n, h => by
    rw [pln] at h
    split at h
    · rename_i hc
      injection h with h
      subst h; subst hc
      exact ⟨by simp [wid], rfl⟩
    · rename_i hc
      split at h
      · cases h
      · rename_i hd
        cases hq : pln r with
        | none => rw [hq] at h; cases h
        | some p =>
          rw [hq] at h
          injection h with h
          obtain ⟨a, b⟩ := pln_some r p hq
          subst h
          exact ⟨by rw [wid, if_neg hd, if_neg (fun e => hc e.1), a], by rw [List.take_succ_cons, List.contains_cons, b, beq_eq_false_iff_ne.2 (fun e => hd e.symm)]; rfl⟩
theorem pln_none : ∀ (l : Bs), pln l = none → (l.take (wid false l)).contains 34 = true
  | [], h => by cases h
  | c :: r, h => by
    rw [pln] at h
    split at h
    · cases h
    · rename_i hc
      split at h
      · rename_i hd
        subst hd
        rw [wid, if_pos rfl, List.take_succ_cons, List.contains_cons]
        rfl
      · rename_i hd
        have hq : pln r = none := by simpa using h
        rw [wid, if_neg hd, if_neg (fun e => hc e.1), List.take_succ_cons, List.contains_cons, pln_none r hq]
        simp
theorem unq_nil : unq [] = ([], true) := rfl
theorem unq_plain {c : UInt8} (h : c ≠ 34) (P : Bs) : unq (c :: P) = (c :: P, !((c :: P).contains 34)) := by
  unfold unq
  rw [if_pos (by simpa [Lib.hasPrefix, List.isPrefixOf] using fun e : (34 : UInt8) = c => h e.symm), indexByte_mem]
theorem hasSuffix_end (Q : Bs) : Lib.hasSuffix (Q ++ [34]) [34] = true := by
  rw [Lib.hasSuffix, List.isSuffixOf_iff_suffix]
  exact ⟨Q, rfl⟩
theorem unq_quoted (Q : Bs) : unq (34 :: (Q ++ [34])) = if (rp [] Q).contains 34 = true then ([], false) else (rp [34] Q, true) := by
  have e1 : Lib.trimPrefix (34 :: (Q ++ [34])) [34] = Q ++ [34] := by
    unfold Lib.trimPrefix
    rw [if_pos (by simp [Lib.hasPrefix, List.isPrefixOf])]
    rfl
  have e2 : Lib.trimSuffix (Q ++ [34]) [34] = Q := by
    unfold Lib.trimSuffix
    rw [if_pos (hasSuffix_end Q)]
    simp
  unfold unq
  rw [if_neg (by simp [Lib.hasPrefix, List.isPrefixOf]), e1, if_neg (by rw [hasSuffix_end]; decide), e2, indexByte_mem, replaceAll_rp _ _ (by decide), replaceAll_rp _ _ (by decide)]
theorem unq_open {P : Bs} (h : ∀ Q, P = Q ++ [34] → (rp [] Q).contains 34 = true) : (unq (34 :: P)).2 = false := by
  by_cases hs : Lib.hasSuffix P [34] = true
  · rw [Lib.hasSuffix, List.isSuffixOf_iff_suffix] at hs
    obtain ⟨Q, hQ⟩ := hs
    subst hQ
    rw [unq_quoted, if_pos (h Q rfl)]
  · have e1 : Lib.trimPrefix (34 :: P) [34] = P := by
      unfold Lib.trimPrefix
      rw [if_pos (by simp [Lib.hasPrefix, List.isPrefixOf])]
      rfl
    unfold unq
    rw [if_neg (by simp [Lib.hasPrefix, List.isPrefixOf]), e1, if_pos (by simpa using hs)]
theorem one_some {l v : Bs} {n : Nat} (h : oneF l = some (v, n)) : n = wid false l ∧ unq (l.take n) = (v, true) := by
  cases l with
  | nil =>
    injection h with h
    injection h with h1 h2
    subst h1; subst h2
    exact ⟨rfl, rfl⟩
  | cons c r =>
    rw [oneF] at h
    split at h
    · rename_i hc
      subst hc
      cases hq : qin r with
      | none => rw [hq] at h; cases h
      | some p =>
        rw [hq] at h
        injection h with h
        injection h with h1 h2
        obtain ⟨a, Q, b1, b2, b3⟩ := qin_some r p.1 p.2 hq
        subst h1; subst h2
        refine ⟨by rw [wid, if_pos rfl, a]; rfl, ?_⟩
        rw [List.take_succ_cons, b1, unq_quoted, if_neg (by rw [b2]; decide), b3]
    · rename_i hc
      cases hq : pln (c :: r) with
      | none => rw [hq] at h; cases h
      | some p =>
        rw [hq] at h
        injection h with h
        injection h with h1 h2
        obtain ⟨a, b⟩ := pln_some _ _ hq
        subst h1; subst h2
        refine ⟨a, ?_⟩
        cases p with
        | zero => rfl
        | succ p =>
          rw [List.take_succ_cons] at b ⊢
          rw [unq_plain hc, b]; rfl
theorem one_none {l : Bs} (h : oneF l = none) : (unq (l.take (wid false l))).2 = false := by
  cases l with
  | nil => cases h
  | cons c r =>
    rw [oneF] at h
    split at h
    · rename_i hc
      subst hc
      have hq : qin r = none := by simpa using h
      rw [wid, if_pos rfl, List.take_succ_cons]
      exact unq_open (qin_none r hq)
    · rename_i hc
      have hq : pln (c :: r) = none := by simpa using h
      have hn := pln_none _ hq
      cases hw : wid false (c :: r) with
      | zero => rw [hw] at hn; simp at hn
      | succ k =>
        rw [hw] at hn
        rw [List.take_succ_cons] at hn ⊢
        rw [unq_plain hc, hn]; rfl
/-- A line's fields, one behind the other. -/
def fldsR : Nat → Bs → Option (List Ln)
  | 0, _ => none
  | F + 1, l => match oneF l with
    | none => none
    | some (v, n) => if l.length ≤ n then some [(l.take n, v)] else (fldsR F (l.drop (n + 1))).map (fun r => (l.take n, v) :: r)
theorem fldsR_eq : ∀ (F : Nat) (l : Bs), fldsR F l = flds F l
  | 0, _ => rfl
  | F + 1, l => by
    rw [fldsR, flds]
    cases h : oneF l with
    | none => rw [if_pos (one_none h)]
    | some p =>
      obtain ⟨a, b⟩ := one_some h
      have hw := wid_le l false
      rw [a] at b
      rw [b]
      simp only [Bool.true_eq_false, if_false]
      rw [a]
      by_cases hl : wid false l = l.length
      · rw [if_pos (by omega), if_pos hl]
      · rw [if_neg (by omega), if_neg hl, fldsR_eq F]

theorem pln_sep : ∀ (l : Bs) (n : Nat), pln l = some n → n < l.length → l[n]? = some 44
  | [], n, _, hl => by simp at hl
  | c :: r, n, h, hl => by
    rw [pln] at h
    split at h
    · rename_i hc
      injection h with h
      subst h; subst hc; rfl
    · split at h
      · cases h
      · cases hq : pln r with
        | none => rw [hq] at h; cases h
        | some p =>
          rw [hq] at h
          injection h with h
          subst h
          exact pln_sep r p hq (by simpa using hl)
theorem qin_sep : ∀ (r v : Bs) (n : Nat), qin r = some (v, n) → n < r.length → r[n]? = some 44
  | [], _, _, h, _ => by simp [qin] at h
  | [c], v, n, h, hl => by
    rw [qin] at h
    split at h
    · injection h with h
      injection h with h1 h2
      subst h2
      simp at hl
    · cases h
  | c :: d :: r, v, n, h, hl => by
    rw [qin] at h
    split at h
    · split at h
      · cases hq : qin r with
        | none => rw [hq] at h; cases h
        | some p =>
          rw [hq] at h
          injection h with h
          injection h with h1 h2
          subst h2
          simp only [List.length_cons] at hl
          exact qin_sep r p.1 p.2 hq (by omega)
      · split at h
        · rename_i hd2
          subst hd2
          injection h with h
          injection h with h1 h2
          subst h2
          rfl
        · cases h
    · cases hq : qin (d :: r) with
      | none => rw [hq] at h; cases h
      | some p =>
        rw [hq] at h
        injection h with h
        injection h with h1 h2
        subst h2
        simp only [List.length_cons] at hl
        exact qin_sep (d :: r) p.1 p.2 hq (by simp only [List.length_cons]; omega)
theorem one_sep {l v : Bs} {n : Nat} (h : oneF l = some (v, n)) (hl : n < l.length) : l[n]? = some 44 := by
  cases l with
  | nil => simp at hl
  | cons c r =>
    rw [oneF] at h
    split at h
    · cases hq : qin r with
      | none => rw [hq] at h; cases h
      | some p =>
        rw [hq] at h
        injection h with h
        injection h with h1 h2
        subst h2
        simp only [List.length_cons] at hl
        exact qin_sep r p.1 p.2 hq (by omega)
    · cases hq : pln (c :: r) with
      | none => rw [hq] at h; cases h
      | some p =>
        rw [hq] at h
        injection h with h
        injection h with h1 h2
        subst h2
        exact pln_sep _ _ hq hl
theorem qin_13 : ∀ (r v : Bs) (n : Nat), qin r = some (v, n) → (13 : UInt8) ∈ r.take n → (13 : UInt8) ∈ v
  | [], _, _, h, _ => by simp [qin] at h
  | [c], v, n, h, hl => by
    rw [qin] at h
    split at h
    · rename_i hc
      injection h with h
      injection h with h1 h2
      subst h2; subst hc
      simp at hl
    · cases h
  | c :: d :: r, v, n, h, hl => by
    rw [qin] at h
    split at h
    · rename_i hc
      subst hc
      split at h
      · rename_i hd
        subst hd
        cases hq : qin r with
        | none => rw [hq] at h; cases h
        | some p =>
          rw [hq] at h
          injection h with h
          injection h with h1 h2
          subst h1; subst h2
          rw [List.take_succ_cons, List.take_succ_cons] at hl
          refine List.mem_cons_of_mem _ (qin_13 r p.1 p.2 hq ?_)
          simpa using hl
      · split at h
        · injection h with h
          injection h with h1 h2
          subst h2
          simp at hl
        · cases h
    · cases hq : qin (d :: r) with
      | none => rw [hq] at h; cases h
      | some p =>
        rw [hq] at h
        injection h with h
        injection h with h1 h2
        subst h1; subst h2
        rw [List.take_succ_cons] at hl
        rcases List.mem_cons.1 hl with e | e
        · rw [e]; exact List.mem_cons_self ..
        · exact List.mem_cons_of_mem _ (qin_13 (d :: r) p.1 p.2 hq e)
theorem one_13 {l v : Bs} {n : Nat} (h : oneF l = some (v, n)) (h13 : (13 : UInt8) ∈ l.take n) : (13 : UInt8) ∈ v := by
  cases l with
  | nil => simp at h13
  | cons c r =>
    rw [oneF] at h
    split at h
    · rename_i hc
      subst hc
      cases hq : qin r with
      | none => rw [hq] at h; cases h
      | some p =>
        rw [hq] at h
        injection h with h
        injection h with h1 h2
        subst h1; subst h2
        rw [List.take_succ_cons] at h13
        exact qin_13 r p.1 p.2 hq (by simpa using h13)
    · cases hq : pln (c :: r) with
      | none => rw [hq] at h; cases h
      | some p =>
        rw [hq] at h
        injection h with h
        injection h with h1 h2
        subst h1; subst h2
        exact h13
theorem flds_13 : ∀ (F : Nat) (l : Bs) (fs : List Ln), fldsR F l = some fs → (13 : UInt8) ∈ l → ∃ x ∈ fs, (13 : UInt8) ∈ x.2
  | 0, _, _, h, _ => by cases h
  | F + 1, l, fs, h, h13 => by
    rw [fldsR] at h
    cases ho : oneF l with
    | none => rw [ho] at h; cases h
    | some p =>
      obtain ⟨v, n⟩ := p
      rw [ho] at h
      simp only at h
      split at h
      · rename_i hl
        injection h with h
        subst h
        exact ⟨_, List.mem_cons_self .., one_13 ho (by rw [List.take_of_length_le hl]; exact h13)⟩
      · rename_i hl
        cases hq : fldsR F (l.drop (n + 1)) with
        | none => rw [hq] at h; cases h
        | some q =>
          rw [hq] at h
          injection h with h
          subst h
          have hs := one_sep ho (by omega)
          have hc : l = l.take n ++ 44 :: l.drop (n + 1) := by
            have e := List.take_append_drop n l
            have hlt : n < l.length := by omega
            rw [List.drop_eq_getElem_cons hlt] at e
            rw [List.getElem?_eq_getElem hlt] at hs
            injection hs with hs
            rw [hs] at e
            exact e.symm
          rw [hc] at h13
          rcases List.mem_append.1 h13 with e | e
          · exact ⟨_, List.mem_cons_self .., one_13 ho e⟩
          · rcases List.mem_cons.1 e with e | e
            · cases e
            · obtain ⟨x, hx, hx2⟩ := flds_13 F _ q hq e
              exact ⟨x, List.mem_cons_of_mem _ hx, hx2⟩
end Go.Proofs.YtkgpjohfkfbfhaaGreatDoor.Cv
namespace Go.Proofs.YtkgpjohfkfbfhaaGreatDoor.Cv
open Go.RowKit
set_option maxRecDepth 100000

theorem ascii_qc : ∀ (j : Nat) b, (ByteArray.mk #[34, 44]).data.toList[j]? = some b → b.toNat < 128 := by
  intro j b h
  match j, h with
  | 0, h => simp at h; subst h; decide
  | 1, h => simp at h; subst h; decide
  | j + 2, h => simp at h
set_option maxHeartbeats 1000000 in
theorem indexRune_qc (r : Int) (w : World) (h : 128 ≤ r) : Calls Tryz.prog 157 #[.string ⟨#[34, 44]⟩, .int .i32 r] w fun e w' => e = .returned (.int .i64 (-1)) ∧ Below w.heap.size w w' := by
  by_cases he : r = 65533
  · subst he
    have HB : ∀ i, Below w.heap.size w (w.iter ⟨#[34, 44]⟩ i) := fun i => (Below.refl _ _).alloc (Nat.le_refl _) _
    have n0 := fun ty => run_next_ascii (P := Tryz.prog) w ⟨#[34, 44]⟩ 0 ty (by decide) (by decide)
    have n1 := fun ty => run_next_ascii (P := Tryz.prog) w ⟨#[34, 44]⟩ 1 ty (by decide) (by decide)
    have n2 := fun ty => run_next_end (P := Tryz.prog) w ⟨#[34, 44]⟩ 2 ty (by decide)
    go_enter Tryz.func157, Tryz.ntmps157
    go_wp2_with fail
    go_loopg [5, 6] 2 (fun g _ _ wx => ∃ i : Nat, i + g = 2 ∧ wx = w.iter ⟨#[34, 44]⟩ i)
    case atStart => exact ⟨0, by omega, rfl⟩
    case round =>
      obtain ⟨i, hig, rfl⟩ := hrel
      cases gk with
      | zero =>
        obtain rfl : i = 2 := by omega
        go_wp2_with fail
        go_ret
        exact ⟨rfl, HB _⟩
      | succ g =>
        by_cases h0 : i = 0
        · subst h0
          go_wp2_with fail
          go_roundg g
          case measure => omega
          case rel => exact ⟨1, by omega, rfl⟩
        · obtain rfl : i = 1 := by omega
          go_wp2_with fail
          go_roundg g
          case measure => omega
          case rel => exact ⟨2, by omega, rfl⟩
  · have he' : ((r : Int) == 65533) = false := beq_eq_false_iff_ne.2 he
    have H0 : ((0 : Int) ≤ r) := by omega
    have H1 : ¬ (r < 128) := by omega
    cases hv : Utf8.valid r
    · have HV := Lib.hid (validR r w)
      rw [hv] at HV
      go_enter Tryz.func157, Tryz.ntmps157
      go_wp2_with fail
      (with_reducible refine HV.out.mono ?_)
      rintro e w1 ⟨rfl, rfl⟩
      go_wp2_with fail
      go_ret
      exact ⟨rfl, Below.refl _ _⟩
    · have HV := Lib.hid (validR r w)
      rw [hv] at HV
      have hcv : ∀ W, (convert 21 9 (.int .i32 r)).run Tryz.prog W = .ok (.string (Utf8.encode r)) W := fun W => run_convert_int_string W 21 9 .i32 r rfl rfl
      rcases encode_sorts h hv with ⟨a, b, hab, hb⟩ | ⟨a, b, c, hab⟩ | ⟨a, b, c, d, hab⟩
      · rw [hab] at hcv
        have HI : Hid (∀ W, Calls Tryz.prog 182 #[.string ⟨#[]⟩, .int .u8 b.toNat] W fun e w' => e = .returned (.int .i64 (-1)) ∧ w' = W) := Lib.hid fun W => byteAt ⟨#[]⟩ b.toNat W
        have hsl : ∀ W, (Instr.slice 9 (.string ⟨#[34, 44]⟩) (some (.int .i64 2)) none none).run Tryz.prog W = .ok (.string ⟨#[]⟩) W := by
          intro W
          first | rfl | exact run_slice_string_l (P := Tryz.prog) W 9 ⟨#[34, 44]⟩ rfl .i64 2 (by decide) (by decide) | simp
        have hne : ((((ByteArray.mk #[34, 44])[1]'(by decide)).toNat : Int) != (((ByteArray.mk #[a, b])[1]'(by show 1 < 2; decide)).toNat : Int)) = true := by
          show ((44 : Int) != (b.toNat : Int)) = true
          exact bne_iff_ne.2 (by omega)
        go_enter Tryz.func157, Tryz.ntmps157
        go_wp2_with fail
        (with_reducible refine HV.out.mono ?_)
        rintro e w1 ⟨rfl, rfl⟩
        go_wp2_with fail
        go_step3
        go_wp2_with fail
        go_loopg [9] 1 (fun g i wx => g = 1 ∧ i = .int .i64 1 ∧ wx = w1)
        case atStart => exact ⟨rfl, rfl, rfl⟩
        case round =>
          obtain ⟨rfl, rfl, rfl⟩ := hrel
          go_wp2_with fail
          go_step3
          go_wp2_with fail
          go_quiet (fail)
          go_wp2_with fail
          go_quiet ((refine Calls.mono (HI.out _) ?_; rintro e w' ⟨rfl, rfl⟩; exact ⟨rfl, _, rfl⟩))
          go_wp2_with fail
          rw [Exit.noGoto_ret]
          simp only [Exit.inBlock, Exit.then, Exit.noGoto_ret]
          go_ret
          exact ⟨rfl, below_drewN (Below.refl _ _) _⟩
      · rw [hab] at hcv
        go_enter Tryz.func157, Tryz.ntmps157
        go_wp2_with fail
        (with_reducible refine HV.out.mono ?_)
        rintro e w1 ⟨rfl, rfl⟩
        go_wp2_with fail
        go_step3
        go_wp2_with fail
        go_loopg [9] 1 (fun g i wx => g = 1 ∧ i = .int .i64 2 ∧ wx = w1)
        case atStart => exact ⟨rfl, rfl, rfl⟩
        case round =>
          obtain ⟨rfl, rfl, rfl⟩ := hrel
          go_wp2_with fail
          rw [Exit.noGoto_ret]
          go_ret
          exact ⟨rfl, Below.refl _ _⟩
      · rw [hab] at hcv
        go_enter Tryz.func157, Tryz.ntmps157
        go_wp2_with fail
        (with_reducible refine HV.out.mono ?_)
        rintro e w1 ⟨rfl, rfl⟩
        go_wp2_with fail
        go_step3
        go_wp2_with fail
        go_loopg [9] 1 (fun g i wx => g = 1 ∧ i = .int .i64 3 ∧ wx = w1)
        case atStart => exact ⟨rfl, rfl, rfl⟩
        case round =>
          obtain ⟨rfl, rfl, rfl⟩ := hrel
          go_wp2_with fail
          rw [Exit.noGoto_ret]
          go_ret
          exact ⟨rfl, Below.refl _ _⟩
end Go.Proofs.YtkgpjohfkfbfhaaGreatDoor.Cv
namespace Go.Proofs.YtkgpjohfkfbfhaaGreatDoor.Cv
open Go.RowKit Go.Lib
set_option maxRecDepth 100000

theorem qc_high {b : UInt8} (h : 128 ≤ b.toNat) : ([34, 44] : List UInt8).contains b = false := by
  rw [Bool.eq_false_iff]
  intro hc
  simp at hc
  rcases hc with rfl | rfl <;> simp at h
theorem noAny_jump_qc {s : ByteArray} {i : Nat} (h : NoAny s.data.toList [34, 44] i) (hi : i < s.size) (hx : 128 ≤ (s[i]'hi).toNat) : NoAny s.data.toList [34, 44] (i + (Utf8.decode s i).2) := by
  intro j b hj hb
  rcases Nat.lt_trichotomy j i with hl | rfl | hg
  · exact h j b hl hb
  · have := Lib.data_getElem? s j hi
    rw [this] at hb; cases hb
    exact qc_high hx
  · obtain ⟨hs, hh⟩ := decode_skip s i j hg hj
    have := Lib.data_getElem? s j hs
    rw [this] at hb; cases hb
    refine qc_high ?_
    have e : s.get! j = s[j]'hs := by simp [ByteArray.get!, getElem!_pos, hs]; rfl
    rwa [e] at hh

set_option maxHeartbeats 1000000 in
theorem indexAny_qc (s : ByteArray) (w : World) (h8 : s.size ≤ 8) : Calls Tryz.prog 136 #[.string s, .string ⟨#[34, 44]⟩] w fun e w' => e = .returned (.int .i64 (Lib.indexAny s.data.toList [34, 44])) ∧ Below w.heap.size w w' := by
  have HU : Hid (∀ W, Calls Tryz.prog 158 #[.int .i64 s.size] W fun e w' => e = .returned (.bool (decide ((8 : Int) < (s.size : Int)))) ∧ w' = W) := Lib.hid fun W => Any.strings_shouldUseASCIISet (ρ := Tryz.lays150_ren) { Tryz.lays150 with } s.size W
  have h8z : decide ((8 : Int) < (s.size : Int)) = false := decide_eq_false (by omega)
  rw [h8z] at HU
  go_enter Tryz.func136, Tryz.ntmps136
  go_wp2_with fail
  (with_reducible refine (HU.out _).mono ?_)
  rintro e w1 ⟨rfl, rfl⟩
  go_wp2_with fail
  go_loopg [9, 10] s.size (fun g _ _ wx => ∃ i : Nat, i + g = s.size ∧ Hid (wx.heap[w1.heap.size]? = some (.stringIter s i)) ∧ Hid (Below w1.heap.size w1 wx) ∧ Hid (NoAny s.data.toList [34, 44] i))
  case atStart => exact ⟨0, by omega, Lib.hid (World.iter_heap w1 s 0), Lib.hid ((Below.refl _ _).alloc (Nat.le_refl _) _), Lib.hid (NoAny.zero _ _)⟩
  case round =>
    obtain ⟨i, hig, HK, HB, HN⟩ := hrel
    cases gk with
    | zero =>
      obtain rfl : i = s.size := by omega
      have hnx := fun ty => run_next_end_at (P := Tryz.prog) wr w1.heap.size s s.size ty HK.out (by omega)
      go_wp2_with fail
      go_ret
      exact ⟨by rw [Lib.indexAny_none (by rw [← Lib.size_eq]; exact HN.out)]; rfl, HB.out⟩
    | succ g =>
      have hi : i < s.size := by omega
      obtain ⟨x, hx⟩ : ∃ x : UInt8, s[i]'hi = x := ⟨_, rfl⟩
      have Hx : Hid (s.data.toList[i]? = some x) := Lib.hid (by rw [← hx]; exact Lib.data_getElem? s i hi)
      by_cases hlt : x.toNat < 128
      · have hnx := fun ty => run_next_ascii_at (P := Tryz.prog) wr w1.heap.size s i ty HK.out hi (by rw [hx]; exact hlt)
        rw [hx] at hnx
        have HK2 := Lib.hid (Lib.iterAt_heap wr w1.heap.size s i (i + 1) HK.out)
        have HB2 := Lib.hid (Lib.below_iterAt HB.out (k := w1.heap.size) (Nat.le_refl _) s (i + 1))
        obtain ⟨W, hW⟩ : ∃ W, wr.iterAt w1.heap.size s (i + 1) = W := ⟨_, rfl⟩
        rw [hW] at hnx HK2 HB2
        have HR : Hid (Calls Tryz.prog 157 #[.string ⟨#[34, 44]⟩, .int .i32 x.toNat] W fun e w' => e = .returned (.int .i64 (Lib.indexByte [34, 44] x)) ∧ w' = W) := Lib.hid (by
          have h := Any.strings_IndexRune_ascii (ρ := Tryz.lays150_ren) { Tryz.lays150 with } ⟨#[34, 44]⟩ x.toNat W (by omega) (by omega)
          have hb : ((x.toNat : Int)).toNat.toUInt8 = x := by simp
          rw [hb] at h; exact h)
        have hcon := Lib.contains_iff_indexByte [34, 44] x
        clear hx hW
        cases hin : ([34, 44] : List UInt8).contains x
        · rw [hin] at hcon
          have hge : ¬ ((0 : Int) ≤ Lib.indexByte [34, 44] x) := of_decide_eq_false hcon.symm
          clear hcon
          go_wp2_with fail
          (with_reducible refine HR.out.mono ?_)
          rintro e w2 ⟨rfl, rfl⟩
          go_wp2_with fail
          go_roundg g
          case measure => omega
          case rel => exact ⟨i + 1, by omega, HK2, HB2, Lib.hid (HN.out.succ Hx.out hin)⟩
        · rw [hin] at hcon
          have hge : (0 : Int) ≤ Lib.indexByte [34, 44] x := of_decide_eq_true hcon.symm
          clear hcon
          go_wp2_with fail
          (with_reducible refine HR.out.mono ?_)
          rintro e w2 ⟨rfl, rfl⟩
          go_wp2_with fail
          go_ret
          exact ⟨by rw [Lib.indexAny_hit HN.out Hx.out hin]; rfl, HB2.out⟩
      · have hnx := fun ty => run_next_any_at (P := Tryz.prog) wr w1.heap.size s i ty HK.out hi
        have hhi := decode_high s i hi (by rw [hx]; omega)
        have HN2 := Lib.hid (noAny_jump_qc HN.out hi (by rw [hx]; omega))
        have hle : i + (Utf8.decode s i).2 ≤ s.size := by
          by_cases h1 : (Utf8.decode s i).2 = 1
          · omega
          · have := (decode_skip s i (i + (Utf8.decode s i).2 - 1) (by omega) (by omega)).1; omega
        obtain ⟨r, hr⟩ : ∃ r : Nat, (Utf8.decode s i).1 = r := ⟨_, rfl⟩
        obtain ⟨k, hk⟩ : ∃ k : Nat, (Utf8.decode s i).2 = k := ⟨_, rfl⟩
        rw [hr, hk] at hnx hhi
        rw [hk] at HN2 hle
        obtain ⟨hr128, hk1⟩ := hhi
        have HK2 := Lib.hid (Lib.iterAt_heap wr w1.heap.size s i (i + k) HK.out)
        have HB2 := Lib.hid (Lib.below_iterAt HB.out (k := w1.heap.size) (Nat.le_refl _) s (i + k))
        obtain ⟨W, hW⟩ : ∃ W, wr.iterAt w1.heap.size s (i + k) = W := ⟨_, rfl⟩
        rw [hW] at hnx HK2 HB2
        have HR := Lib.hid (indexRune_qc (r : Int) W (by omega))
        clear hx hW hr hk
        go_wp2_with fail
        (with_reducible refine HR.out.mono ?_)
        rintro e w2 ⟨rfl, hb2⟩
        go_wp2_with fail
        go_roundg (s.size - (i + k))
        case measure => omega
        case rel => exact ⟨i + k, by omega, Lib.hid ((hb2.block _ (Array.getElem?_eq_some_iff.1 HK2.out).1).trans HK2.out), Lib.hid (HB2.out.trans (hb2.mono HB2.out.size)), HN2⟩

theorem indexAny_all_qc (s : ByteArray) (w : World) (hs : s.size < 4294967281) : Calls Tryz.prog 136 #[.string s, .string ⟨#[34, 44]⟩] w fun e w' => e = .returned (.int .i64 (Lib.indexAny s.data.toList [34, 44])) ∧ Below w.heap.size w w' := by
  by_cases h8 : s.size ≤ 8
  · exact indexAny_qc s w h8
  · have h116 : (Tryz.prog.info? (Tryz.lays150_ren.t 116)).map (fun i => (i.zero, i.size)) = some (some (.agg (Array.replicate 256 (.bool false))), 256) := by kernel_rfl
    have h := Any.strings_IndexAny_long (ρ := Tryz.lays150_ren) { Tryz.lays150 with } (zero_of_info h116).1 (zero_of_info h116).2 s ⟨#[34, 44]⟩ w (by decide) (by omega) hs (by decide) ascii_qc
    exact h.mono fun e w' k => ⟨k.1, by rw [k.2]; exact ((Below.refl _ _).alloc (Nat.le_refl _) _).alloc (by show w.heap.size ≤ (w.heap.push _).size; simp) _⟩

/-- strings.ContainsAny of a quote or a comma, in any bytes. -/
theorem containsAny_qc (s : ByteArray) (w : World) (hs : s.size < 4294967281) : Calls Tryz.prog 113 #[.string s, .string ⟨#[34, 44]⟩] w fun e w' => e = .returned (.bool (Lib.containsAny s.data.toList [34, 44])) ∧ Below w.heap.size w w' := by
  have H := Lib.hid (indexAny_all_qc s w hs)
  have HV : Lib.containsAny s.data.toList [34, 44] = decide ((0 : Int) ≤ Lib.indexAny s.data.toList [34, 44]) := rfl
  rw [HV]
  clear HV hs
  obtain ⟨v, hv⟩ : ∃ v, v = Lib.indexAny s.data.toList [34, 44] := ⟨_, rfl⟩
  rw [← hv] at H ⊢
  go_enter Tryz.func113, Tryz.ntmps113
  go_wp2_with fail
  (with_reducible refine H.out.mono ?_)
  rintro e w1 ⟨rfl, hb⟩
  go_wp2_with fail
  go_ret
  exact ⟨by rw [hv]; rfl, hb⟩
end Go.Proofs.YtkgpjohfkfbfhaaGreatDoor.Cv
namespace Go.Proofs.YtkgpjohfkfbfhaaGreatDoor.Cv
open Go.RowKit Go.Proofs.YtkgpjohfkfbfhaaGreatDoor.Jd Go.Proofs.YtkgpjohfkfbfhaaGreatDoor.Li
set_option maxRecDepth 100000

/-- A field, written anew. -/
def qF (l : Bs) : Bs := if Lib.containsAny l [34, 44] = true then [34] ++ Lib.replaceAll l [34] [34, 34] ++ [34] else l
theorem replaceK_len (old new : Bs) : ∀ (k : Nat) (s : Bs), (Lib.replaceK old new k s).length ≤ s.length + k * new.length
  | 0, s => by rw [Lib.replaceK]; omega
  | k + 1, s => by
    rw [Lib.replaceK]
    split
    · omega
    · have := replaceK_len old new k (s.drop ((Lib.index s old).toNat + old.length))
      simp only [List.length_append, List.length_take, List.length_drop, Nat.add_mul] at this ⊢
      omega
theorem replaceAll_len (s old new : Bs) : (Lib.replaceAll s old new).length ≤ s.length + (s.length + 1) * new.length := by
  have hc := Lib.count_le s old
  unfold Lib.replaceAll Lib.replace Lib.replaceNum
  split
  · omega
  · rw [if_pos (.inl (by decide))]
    have h := replaceK_len old new (Lib.count s old) s
    have := Nat.mul_le_mul_right new.length hc
    omega
theorem qF_len (l : Bs) : (qF l).length ≤ 3 * l.length + 4 := by
  unfold qF
  have := replaceAll_len l [34] [34, 34]
  simp only [List.length_cons, List.length_nil] at this
  split
  · simp only [List.length_append, List.length_cons, List.length_nil]; omega
  · omega
set_option maxHeartbeats 2000000 in
theorem quoted_any (s : ByteArray) (w : World) (hz : s.size ≤ 4000) (_ : Pl s) (hG : Gl w) : Calls Tryz.prog 102 #[.string s] w fun e w' => e = .returned (.string ⟨(qF s.data.toList).toArray⟩) ∧ Below w.heap.size w w' := by
  have HC := Lib.hid (containsAny_qc s w (by omega))
  obtain ⟨v, hv⟩ : ∃ v, v = Lib.containsAny s.data.toList [34, 44] := ⟨_, rfl⟩
  rw [← hv] at HC
  have HV : Hid (qF s.data.toList = if v = true then [34] ++ Lib.replaceAll s.data.toList [34] [34, 34] ++ [34] else s.data.toList) := Lib.hid (by rw [hv]; rfl)
  have hR : ∀ (W : World), Gl W → Calls Tryz.prog 132 #[.string s, .string ⟨#[34]⟩, .string ⟨#[34, 34]⟩] W fun e w' => e = .returned (.string ⟨(Lib.replaceAll s.data.toList [34] [34, 34]).toArray⟩) ∧ Below W.heap.size W w' := by
    intro W hW
    obtain ⟨m, hm⟩ := hW
    have hcb := Lib.countB_le ⟨#[34]⟩ (by decide) s.size s (Nat.le_refl _)
    have h := Tryz.strings_ReplaceAll s ⟨#[34]⟩ ⟨#[34, 34]⟩ m W (by omega) hm (by decide) (by have e : (ByteArray.mk #[34, 34]).size = 2 := rfl; rw [e]; omega)
    exact h
  obtain ⟨r, hr⟩ : ∃ r, r = ByteArray.mk (Lib.replaceAll s.data.toList [34] [34, 34]).toArray := ⟨_, rfl⟩
  have hrz : r.size ≤ 12010 := by
    have := replaceAll_len s.data.toList [34] [34, 34]
    have e : r.size = (Lib.replaceAll s.data.toList [34] [34, 34]).length := by rw [hr]; rfl
    have es : s.size = s.data.toList.length := rfl
    simp only [List.length_cons, List.length_nil] at this
    omega
  have e1 : (ByteArray.mk #[34]).size = 1 := rfl
  have ha1 := fun W => run_string_add_sum (P := Tryz.prog) (w := W) ⟨#[34]⟩ r (by omega)
  have ha2 := fun W => run_string_add_sum (P := Tryz.prog) (w := W) (⟨#[34]⟩ ++ r) ⟨#[34]⟩ (by rw [ByteArray.size_append]; omega)
  rw [← hr] at hR
  have HE : Hid ((⟨#[34]⟩ ++ r) ++ ⟨#[34]⟩ = ByteArray.mk ([34] ++ Lib.replaceAll s.data.toList [34] [34, 34] ++ [34]).toArray) := Lib.hid (by rw [hr]; exact ByteArray.ext (by simp))
  clear hr hrz
  have HR := Lib.hid (fun W (hb : Below w.heap.size w W) => hR W (hG.below hb))
  clear hG hR hv
  cases v with
  | false =>
    go_enter Tryz.func102, Tryz.ntmps102
    go_wp2_with fail
    (with_reducible refine HC.out.mono ?_)
    rintro e w1 ⟨rfl, hb1⟩
    go_wp2_with fail
    go_ret
    exact ⟨by rw [HV.out]; rfl, hb1⟩
  | true =>
    go_enter Tryz.func102, Tryz.ntmps102
    go_wp2_with fail
    (with_reducible refine HC.out.mono ?_)
    rintro e w1 ⟨rfl, hb1⟩
    go_wp2_with fail
    (with_reducible refine (HR.out _ hb1).mono ?_)
    rintro e w2 ⟨rfl, hb2⟩
    have hb12 := hb1.trans (hb2.mono hb1.size)
    clear hb1 hb2
    go_wp2_with fail
    go_ret
    exact ⟨by rw [HV.out, if_pos True.intro, ← HE.out]; rfl, hb12⟩
end Go.Proofs.YtkgpjohfkfbfhaaGreatDoor.Cv
