/- csv: inOrder sorts a row of edges of one's own. No conditions. -/
import Derived.Test.YtlojjmmjmpffnaaGreatDoorMgCvT
import Derived.Test.YtlojjmmjmpffnaaGreatDoorCvOrdM
import Derived.Lib.OwnBridge
import Derived.Lib.AppendIntMem
import Derived.Outline
namespace Go.Proofs.YtlojjmmjmpffnaaGreatDoor.Cv
open Go.RowKit Go.Proofs.YtlojjmmjmpffnaaGreatDoor.Jd Go.Proofs.YtlojjmmjmpffnaaGreatDoor.Li Go.Proofs.YtlojjmmjmpffnaaGreatDoor.Cl
set_option maxRecDepth 100000

theorem ownsRow_put2 {w : World} {base : Nat} {e : TypeId} {g n cap q : Nat} {xs : List Value} {F : Array Value} (h : w.ownsRow base e 2 (.slice (some ⟨g, 0, none⟩) n cap) n xs) (hF : F.size = n * 2) :
    (Sort.putRow id (Sort.ahead w q) g 0 F).ownsRow base e 2 (.slice (some ⟨g, 0, none⟩) n cap) n F.toList := by
  rcases h.2 with ⟨e0, _⟩ | ⟨g', cap', cur, e0, hb, hg, hn, hm, hs, ht⟩
  · cases e0
  · injection e0 with e1 _ e3
    injection e1 with e1
    injection e1 with e1
    subst e1; subst e3
    refine ⟨by simpa using hF, .inr ⟨g, cap, Sort.putCells id 0 F cur, rfl, hb, ?_, hn, hm, by simpa [Sort.putCells] using hs, ?_⟩⟩
    · simp [Sort.putRow, Sort.mapBlock, Sort.ahead, Array.getElem?_modify, hg, Sort.onCells]
    · apply List.ext_getElem?
      intro j
      rw [List.getElem?_take, Array.getElem?_toList, Array.getElem?_toList]
      by_cases hj : j < n * 2
      · have hjc : j < cur.size := by omega
        have hjF : j < F.size := by omega
        simp only [if_pos hj, Sort.putCells, Array.getElem?_mapIdx, Array.getElem?_eq_getElem hjc, Array.getElem?_eq_getElem hjF, Option.map_some]
        rw [if_pos (by omega)]
        simp [getElem!_pos, hjF]
      · rw [if_neg hj, Array.getElem?_eq_none (by omega)]

theorem edg_sorted {t : Tr} {vs : List Value} {w : World} {base g n cap : Nat} (h : Edg w base base (some ⟨g, 0, none⟩) n cap t vs) (hB : base ≤ w.heap.size) (hgb : base ≤ g) (D : Array Nat) (hD : D.size = n) (hi : ∀ i ∈ D.toList, i < t.len) (m : Nat) (os : Array Obj) :
    Edg (sortWorldK (encE t vs) 2 w g 0 m D os) base base (some ⟨g, 0, none⟩) n cap (ofI t D.toList) (celI t vs D.toList) ∧ Below base w (sortWorldK (encE t vs) 2 w g 0 m D os) := by
  have own1 := ownsRow_put2 (q := m) (F := Sort.flatK (encE t vs) 2 D) h.own (by simp [hD])
  rw [flatE] at own1
  have own2 := Lib.ownsRow_grow own1 0 os
  have b1 : Below base w (Sort.putRow id (Sort.ahead w m) g 0 (Sort.flatK (encE t vs) 2 D)) := Lib.below_putRow (Below.refl base w) hgb
  have b2 := Lib.below_grow (Sort.putRow id (Sort.ahead w m) g 0 (Sort.flatK (encE t vs) 2 D)).heap.size (Sort.putRow id (Sort.ahead w m) g 0 (Sort.flatK (encE t vs) 2 D)) (Nat.le_refl _) 0 os
  have b3 := Lib.below_grow base (Sort.putRow id (Sort.ahead w m) g 0 (Sort.flatK (encE t vs) 2 D)) (Nat.le_trans hB b1.size) 0 os
  refine ⟨⟨own2, ?_⟩, b1.trans b3⟩
  refine ((rowP_ofI h.row hi).keep (w' := sortWorldK (encE t vs) 2 w g 0 m D os) fun b o hb => ?_).more fun b hb => ⟨hb.1, Nat.lt_of_lt_of_le hb.2.1 (Nat.le_trans b1.size b3.size), hb.2.2⟩
  have hne : b ≠ g := fun e => hb.2.2 (by rw [e]; rfl)
  have e1 := b2.cell (p := ⟨b, o, none⟩) (Nat.lt_of_lt_of_le hb.2.1 b1.size)
  have e2 := Sort.cell?_putRow_other id (Sort.ahead w m) g 0 (Sort.flatK (encE t vs) 2 D) ⟨b, o, none⟩ (Or.inl hne)
  exact e1.trans e2

theorem pdq_mem (t : Tr) : (Sort.pdq (ltOf (cfE t)) (Array.range t.len) 0 t.len (Lib.bitLen t.len) true true).size = t.len ∧ (Sort.pdq (ltOf (cfE t)) (Array.range t.len) 0 t.len (Lib.bitLen t.len) true true).toList.Perm (List.range t.len) ∧ Sort.SortedIn (ltOf (cfE t)) 0 t.len (Sort.pdq (ltOf (cfE t)) (Array.range t.len) 0 t.len (Lib.bitLen t.len) true true) := by
  have hs := Sort.pdq_sorts (ltOf (cfE t)) (swoE t) (Array.range t.len) 0 t.len (Lib.bitLen t.len) true true (Nat.zero_le _) (by simp) (Or.inl rfl)
  obtain ⟨⟨h1, _, h3⟩, h4⟩ := hs
  have h1' : (Sort.pdq (ltOf (cfE t)) (Array.range t.len) 0 t.len (Lib.bitLen t.len) true true).size = t.len := by simpa using h1
  refine ⟨h1', ?_, h4⟩
  have ex : ∀ (d : Array Nat) (n : Nat), d.size = n → d.extract 0 n = d := fun d n h => by subst h; simp
  have e1 := ex _ _ h1'
  have e2 := ex (Array.range t.len) t.len (by simp)
  rw [e1, e2] at h3
  simpa using h3
theorem srtE_nil : srtE .nil = .nil := by
  have h := (pdq_mem .nil).1
  unfold srtE
  generalize Sort.pdq (ltOf (cfE .nil)) (Array.range (Tr.len .nil)) 0 (Tr.len .nil) (Lib.bitLen (Tr.len .nil)) true true = D at h ⊢
  have h' : D.size = 0 := h
  have e : D.toList = [] := List.eq_nil_of_length_eq_zero (by simpa using h')
  rw [e]; rfl

set_option maxHeartbeats 2000000 in
theorem sortEdge_none (fv : Value) (w : World) : Calls Tryz.prog 64 #[.slice none 0 0, fv] w fun e w' => e = .returned (.tuple #[]) ∧ w' = w := by
  have HP := Lib.hid (fun lim W => AnyF.pdqsortCmpFunc_none Tryz.sortEdge none 0 lim fv W)
  have HL := Lib.hid (Tryz.bits_Len 0 w (by omega) (by omega))
  go_enter Tryz.func64, Tryz.ntmps64
  go_wp2_with fail
  (with_reducible refine HL.out.mono ?_)
  rintro e w' ⟨rfl, rfl⟩
  go_wp2_with fail
  refine (HP.out _ _).mono ?_
  rintro e w' ⟨rfl, rfl⟩
  go_wp2_with fail
  go_end0
  exact ⟨rfl, rfl⟩

set_option maxHeartbeats 4000000 in
theorem inOrd_E : InOrd srtE := by
  intro t A n c base vs w h hB hn
  have hlen := h.len
  have hC : ∃ vs', Calls Tryz.prog 64 #[.slice A n c, .func (.func 65) #[] #[]] w fun e w' => e = .returned (.tuple #[]) ∧ Edg w' base base A n c (srtE t) vs' ∧ Below base w w' := by
    rcases h.own.2 with ⟨e0, e2⟩ | ⟨g, cap', cur, e0, hb, hg, hnc, hm, hs, ht⟩
    · injection e0 with e1 _ e3
      subst e1; subst e2; subst e3
      have et : t = .nil := by cases t with
        | nil => rfl
        | cons _ _ _ => simp [Tr.len] at hlen
      subst et
      refine ⟨[], (sortEdge_none _ w).mono ?_⟩
      rintro e w' ⟨rfl, rfl⟩
      exact ⟨rfl, by rw [srtE_nil]; exact Edg.nil _ _ _, Below.refl _ _⟩
    · injection e0 with e1 _ e3
      subst e1; subst e3
      have hgs : g < w.heap.size := (Array.getElem?_eq_some_iff.1 hg).1
      have hH : Sort.HoldsK (encE t vs) 2 w g 0 (Array.range t.len) := by
        intro j hj
        have hj' : j < t.len * 2 := by simpa using hj
        refine ⟨?_, by simp [World.frozen?, hg]⟩
        have e1 := rowCells h.own j _ (rowP_cel h.row j hj')
        rw [Addr.add_lit] at e1
        rw [e1, Sort.get_flatK _ _ _ _ (by simpa using hj')]
        rw [getElem!_pos (Array.range t.len) (j / 2) (by simp; omega)]
        simp
      have eg : ∀ args w, (callFunc 65 args).run Tryz.prog w = .ok (.enter 65 args) w := enters_of Tryz.func65 (by kernel_rfl) rfl
      have hcmp : CmpLays Tryz.prog 65 #[] (encE t vs) 2 (cfE t) g 0 (Array.range t.len).size w := by
        intro m os dk _ x y
        obtain ⟨A1, n1, c1, h1⟩ := slE_form vs x
        obtain ⟨A2, n2, c2, h2⟩ := slE_form vs y
        simp only [encE, h1, h2]
        refine (cmp1_any (nmE t x) (nmE t y) A1 A2 n1 c1 n2 c2 _).mono ?_
        rintro e w' ⟨rfl, rfl⟩
        exact ⟨rfl, 0, _, by rw [Sort.alloc_eq_grow, Sort.alloc_eq_grow, Sort.grow_grow]; rfl⟩
      have hc := sortEdge_eq (encE t vs) (fun _ => rfl) (fun x v hv => by
        obtain ⟨A1, n1, c1, h1⟩ := slE_form vs x
        simp only [encE, h1, List.mem_cons, List.not_mem_nil, or_false] at hv
        rcases hv with rfl | rfl <;> rfl) (cfE t) (swoE t) 65 #[] g 0 c (Array.range t.len) w eg hcmp hH hgs (by simp; omega)
      rw [Array.size_range] at hc
      subst hlen
      obtain ⟨p1, p2, _⟩ := pdq_mem t
      refine ⟨celI t vs (Sort.pdq (ltOf (cfE t)) (Array.range t.len) 0 t.len (Lib.bitLen t.len) true true).toList, hc.mono ?_⟩
      rintro e w' ⟨rfl, m, os, rfl⟩
      exact ⟨rfl, edg_sorted h hB hb _ p1 (fun i hi => by have := p2.mem_iff.1 hi; simpa using this) m os⟩
  obtain ⟨vs', hC⟩ := hC
  have HC := Lib.hid hC
  clear hC hlen h
  go_enter Tryz.func39, Tryz.ntmps39
  go_wp2_with fail
  (with_reducible refine HC.out.mono ?_)
  rintro e w' ⟨rfl, h1, h2⟩
  go_wp2_with fail
  go_ret
  exact ⟨vs', rfl, h1, h2⟩
end Go.Proofs.YtlojjmmjmpffnaaGreatDoor.Cv
