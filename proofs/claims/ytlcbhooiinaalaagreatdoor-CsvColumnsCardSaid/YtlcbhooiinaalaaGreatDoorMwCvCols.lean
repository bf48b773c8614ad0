/- csv: a file's columns. No conditions but that the head has a field. · slices.SortFunc at edges, whole: the shelf pays for what lies below it · csv: rows of edges, told by their numbers; sorted. No conditions. · csv: inOrder sorts a row of edges of one's own. No conditions. -/
import Derived.Test.YtlcbhooiinaalaaGreatDoorMwCvTree1
import Derived.Outline
import Derived.Test.YtlcbhooiinaalaaGreatDoorSortLay
import Derived.Lib.OwnBridge
import Derived.Lib.AppendIntMem
namespace Go.Proofs.YtlcbhooiinaalaaGreatDoor.Cv
open Go.RowKit Go.Proofs.YtlcbhooiinaalaaGreatDoor.Jd Go.Proofs.YtlcbhooiinaalaaGreatDoor.Li Go.Proofs.YtlcbhooiinaalaaGreatDoor.Cl
set_option maxRecDepth 100000

/-- The columns answered. -/
def CoP (w : World) (cols : List ByteArray) (en : Ending) (w' : World) : Prop := ∃ A c, en = .returned (.slice A cols.length c) ∧ SeesV w' w'.heap.size A cols.length (cols.map Value.string) ∧ Below w.heap.size w w'
set_option maxHeartbeats 2000000 in
theorem columns_any (x0 : Ln) (xl : List Ln) (Ah Ar At : Option Addr) (nh ch nr cr nt ct : Nat) (en : ByteArray) (w : World) (h : SeesL w w.heap.size Ah nh (x0 :: xl)) (hn : nh ≤ 100000) :
    Calls Tryz.prog 52 #[.agg #[.slice Ah nh ch, .string en, .slice Ar nr cr, .slice At nt ct]] w (CoP w (mns xl)) := by
  have hl := h.len
  rw [List.length_cons] at hl
  subst hl
  obtain ⟨m, hm⟩ : ∃ m, m = xl.length := ⟨_, rfl⟩
  have hml : (mns xl).length = m := by rw [mns_len, hm]
  have hb0 : Below w.heap.size w (w.alloc (Obj.cells #[.slice Ah (xl.length + 1) ch, .string en, .slice Ar nr cr, .slice At nt ct] 65)) := (Below.refl _ _).alloc (Nat.le_refl _) _
  have hM := means_any (x0 :: xl) Ah (xl.length + 1) ch w.heap.size en (w.alloc (Obj.cells #[.slice Ah (xl.length + 1) ch, .string en, .slice Ar nr cr, .slice At nt ct] 65)) (h.below hb0) hb0.size hn
  rw [← hm] at hM hb0 hn ⊢
  have HM := Lib.hid hM
  have HB0 := Lib.hid hb0
  have Hm := Lib.hid hm
  have hnc1 : (1 : Int) ≤ ((m + 1 : Nat) : Int) := by omega
  have hnc2 : (1 : Int) ≤ (m : Int) + 1 := by omega
  unfold CoP
  rw [hml]
  clear h hb0 hM hm hml
  by_cases hm0 : m = 0
  · subst hm0
    go_enter Tryz.func52, Tryz.ntmps52
    go_wp2_with fail
    (with_reducible refine HM.out.mono ?_)
    rintro e w2 ⟨g, rfl, hg, hgc, hb2⟩
    have HB2 := Lib.hid (HB0.out.trans (hb2.mono HB0.out.size))
    clear hb2 hg hgc
    go_wp2_with fail
    go_ret
    have hx : mns xl = [] := List.eq_nil_of_length_eq_zero (by rw [mns_len, ← Hm.out])
    rw [hx]
    exact ⟨_, _, rfl, ⟨rfl, fun j u hu => by simp at hu⟩, HB2.out⟩
  · have hc1 : ¬ m + 1 = 1 := by omega
    go_enter Tryz.func52, Tryz.ntmps52
    go_wp2_with fail
    (with_reducible refine HM.out.mono ?_)
    rintro e w2 ⟨g, rfl, hg, hgc, hb2⟩
    have HB2 := Lib.hid (HB0.out.trans (hb2.mono HB0.out.size))
    have hs := mn_sees (n := m + 1) (ls := x0 :: xl) (by rw [Hm.out, List.length_cons]) hgc
    have HS := Lib.hid (sees_tail (z := ⟨x0.2.toArray⟩) (zs := mns xl) hs)
    clear hb2 hg hgc hs
    go_wp2_with fail
    go_ret
    exact ⟨_, _, rfl, HS.out, HB2.out⟩
end Go.Proofs.YtlcbhooiinaalaaGreatDoor.Cv
namespace Go.Proofs
open Go.Shelf Go.RowKit Go.Lib Go.Sort
set_option maxHeartbeats 2000000 in
set_option maxRecDepth 100000 in
theorem sortEdge_eq {α : Type} [Inhabited α] (enc : α → List Value) (hk : ∀ x, (enc x).length = 2) (h1 : ∀ x, ∀ v ∈ enc x, v.oneCell' = true) (cf : α → α → Int) (hO : SWO (ltOf cf)) (g : Nat) (cb : Array Value) (blk off cap : Nat) (d : Array α) (w : World)
    (eg : ∀ args w, (callFunc g args).run Tryz.prog w = .ok (.enter g args) w) (hcmp : CmpLays Tryz.prog g cb enc 2 cf blk off d.size w) (hH : HoldsK enc 2 w blk off d) (hblk : blk < w.heap.size) (hsz : d.size < 4611686018427387904) :
    Calls Tryz.prog 122 #[.slice (some ⟨blk, off, none⟩) d.size cap, .func (.func g) #[] cb] w fun e w' =>
      e = .returned (.tuple #[]) ∧ ∃ n os, w' = sortWorldK enc 2 w blk off n (pdq (ltOf cf) d 0 d.size (Lib.bitLen d.size) true true) os := by
  have hlim : Lib.bitLen d.size < 4611686018427387904 := Nat.lt_of_le_of_lt (Lib.bitLen_le d.size 62 (by omega) (by omega)) (by omega)
  have hp := AnyQ.pdqsortCmpFunc_all Tryz.sortEdge 2 (fun w => rfl) (fun w => rfl) enc cf g cb hO blk off cap d w eg hcmp ⟨hk, h1, hH, hblk⟩ (d.size + 1) 0 d.size (Lib.bitLen d.size) d w (by omega) rfl (SWK.start hH) (Nat.zero_le _) (Nat.le_refl _) hsz hlim (Or.inl rfl)
  have hl : Calls Tryz.prog 134 #[.int .u64 (d.size : Int)] w fun e w' => e = .returned (.int .i64 (Lib.bitLen d.size : Nat)) ∧ w' = w := by
    have h := Tryz.bits_Len (d.size : Int) w (by omega) (by omega)
    rwa [Int.toNat_natCast] at h
  have wr : IntKind.u64.wrap (d.size : Int) = d.size := by simp [IntKind.wrap, IntKind.bits, IntKind.signed]; omega
  change Calls Tryz.prog 143 #[.slice (some ⟨blk, off, none⟩) d.size cap, .int .i64 0, .int .i64 (d.size : Int), .int .i64 (Lib.bitLen d.size : Nat), .func (.func g) #[] cb] w _ at hp
  generalize pdq (ltOf cf) d 0 d.size (Lib.bitLen d.size) true true = D at hp ⊢
  have HL := Lib.hid hl
  have HP := Lib.hid hp
  clear hH hcmp hk h1 hl hp
  go_enter Tryz.func122, Tryz.ntmps122
  go_wp2_with fail
  (with_reducible refine HL.out.mono ?_)
  rintro e w' ⟨rfl, rfl⟩
  go_wp2_with fail
  (with_reducible refine HP.out.mono ?_)
  rintro e w' ⟨rfl, n, os, rfl⟩
  go_wp2_with fail
  go_end0
  exact ⟨rfl, n, os, rfl⟩
end Go.Proofs
namespace Go.Proofs.YtlcbhooiinaalaaGreatDoor.Cv
open Go.RowKit Go.Sort Go.Proofs.YtlcbhooiinaalaaGreatDoor.Jd Go.Proofs.YtlcbhooiinaalaaGreatDoor.Li Go.Proofs.YtlcbhooiinaalaaGreatDoor.Cl
set_option maxRecDepth 100000

/-- The i-th edge's name. -/
def nmE : Tr → Nat → ByteArray
  | .nil, _ => ByteArray.empty
  | .cons s _ _, 0 => s
  | .cons _ _ r, i + 1 => nmE r i
/-- What is below the i-th edge. -/
def kdE : Tr → Nat → Tr
  | .nil, _ => .nil
  | .cons _ k _, 0 => k
  | .cons _ _ r, i + 1 => kdE r i
/-- The slice in the i-th edge's cells. -/
def slE : List Value → Nat → Value
  | _ :: .slice A n c :: _, 0 => .slice A n c
  | _ :: _ :: r, i + 1 => slE r i
  | _, _ => .slice none 0 0
theorem slE_form : ∀ (vs : List Value) (i : Nat), ∃ A n c, slE vs i = .slice A n c
  | vs, i => by
    unfold slE
    split
    · exact ⟨_, _, _, rfl⟩
    · exact slE_form _ _
    · exact ⟨_, _, _, rfl⟩
termination_by vs => vs.length
/-- The edges with these numbers. -/
def ofI (t : Tr) : List Nat → Tr
  | [] => .nil
  | i :: r => .cons (nmE t i) (kdE t i) (ofI t r)
def celI (t : Tr) (vs : List Value) : List Nat → List Value
  | [] => []
  | i :: r => .string (nmE t i) :: slE vs i :: celI t vs r
def encE (t : Tr) (vs : List Value) (i : Nat) : List Value := [.string (nmE t i), slE vs i]
def cfE (t : Tr) (i j : Nat) : Int := Lib.compareBytes (nmE t i).data.toList (nmE t j).data.toList
/-- What inOrder answers. -/
def srtE (t : Tr) : Tr := ofI t (pdq (ltOf (cfE t)) (Array.range t.len) 0 t.len (Lib.bitLen t.len) true true).toList

theorem cmpB_lt : ∀ (a b : List UInt8), Lib.compareBytes a b < 0 ∨ Lib.compareBytes a b = 0 ∧ a = b ∨ 0 < Lib.compareBytes a b
  | [], [] => .inr (.inl ⟨rfl, rfl⟩)
  | [], _ :: _ => .inl (by simp [Lib.compareBytes])
  | _ :: _, [] => .inr (.inr (by simp [Lib.compareBytes]))
  | a :: u, b :: v => by
    rw [Lib.compareBytes]
    split
    · exact .inl (by omega)
    · split
      · exact .inr (.inr (by omega))
      · rename_i h1 h2
        have e : a = b := by
          apply UInt8.toNat_inj.1
          have h1' : ¬ a.toNat < b.toNat := h1
          have h2' : ¬ b.toNat < a.toNat := h2
          omega
        subst e
        rcases cmpB_lt u v with h | ⟨h, h'⟩ | h
        · exact .inl h
        · exact .inr (.inl ⟨h, by rw [h']⟩)
        · exact .inr (.inr h)
theorem cmpB_flip : ∀ (a b : List UInt8), Lib.compareBytes a b = -Lib.compareBytes b a
  | [], [] => rfl
  | [], _ :: _ => rfl
  | _ :: _, [] => rfl
  | a :: u, b :: v => by
    rw [Lib.compareBytes, Lib.compareBytes]
    have hab : a < b ↔ a.toNat < b.toNat := Iff.rfl
    have hba : b < a ↔ b.toNat < a.toNat := Iff.rfl
    by_cases h1 : a < b
    · rw [if_pos h1, if_neg (fun h => by have := hab.1 h1; have := hba.1 h; omega), if_pos h1]
    · rw [if_neg h1]
      by_cases h2 : b < a
      · rw [if_pos h2, if_pos h2]; rfl
      · rw [if_neg h2, if_neg h2, if_neg h1, cmpB_flip u v]
theorem cmpB_trans : ∀ (a b c : List UInt8), Lib.compareBytes a b ≤ 0 → Lib.compareBytes b c ≤ 0 → Lib.compareBytes a c ≤ 0 ∧ (Lib.compareBytes a b < 0 ∨ Lib.compareBytes b c < 0 → Lib.compareBytes a c < 0)
  | [], [], [], _, _ => by simp [Lib.compareBytes]
  | [], [], _ :: _, _, _ => by simp [Lib.compareBytes]
  | [], _ :: _, [], _, h => by simp [Lib.compareBytes] at h
  | [], _ :: _, _ :: _, _, _ => by simp [Lib.compareBytes]
  | _ :: _, [], _, h, _ => by simp [Lib.compareBytes] at h
  | _ :: _, _ :: _, [], _, h => by simp [Lib.compareBytes] at h
  | a :: u, b :: v, c :: z, h1, h2 => by
    rw [Lib.compareBytes] at h1 h2 ⊢
    rw [Lib.compareBytes, Lib.compareBytes]
    have hab : a < b ↔ a.toNat < b.toNat := Iff.rfl
    have hba : b < a ↔ b.toNat < a.toNat := Iff.rfl
    have hbc : b < c ↔ b.toNat < c.toNat := Iff.rfl
    have hcb : c < b ↔ c.toNat < b.toNat := Iff.rfl
    have hac : a < c ↔ a.toNat < c.toNat := Iff.rfl
    have hca : c < a ↔ c.toNat < a.toNat := Iff.rfl
    have ih := cmpB_trans u v z
    split at h1
    · rename_i x1
      split at h2
      · rename_i x2
        rw [if_pos (hac.2 (by have := hab.1 x1; have := hbc.1 x2; omega))]; omega
      · split at h2
        · omega
        · rename_i x2 x3
          have : ¬ b.toNat < c.toNat := x2
          have : ¬ c.toNat < b.toNat := x3
          rw [if_pos (hac.2 (by have := hab.1 x1; omega))]; omega
    · split at h1
      · omega
      · rename_i x1 x2
        have y1 : ¬ a.toNat < b.toNat := x1
        have y2 : ¬ b.toNat < a.toNat := x2
        split at h2
        · rename_i x3
          rw [if_pos (hac.2 (by have := hbc.1 x3; omega))]; omega
        · split at h2
          · omega
          · rename_i x3 x4
            have y3 : ¬ b.toNat < c.toNat := x3
            have y4 : ¬ c.toNat < b.toNat := x4
            rw [if_neg x1, if_neg x2, if_neg x3, if_neg x4, if_neg (fun h => by have := hac.1 h; omega), if_neg (fun h => by have := hca.1 h; omega)]
            exact ih h1 h2
theorem ltE (t : Tr) (x y : Nat) : ltOf (cfE t) x y = decide (Lib.compareBytes (nmE t x).data.toList (nmE t y).data.toList < 0) := rfl
theorem swoE (t : Tr) : SWO (ltOf (cfE t)) where
  irrefl x := by
    have h := cmpB_flip (nmE t x).data.toList (nmE t x).data.toList
    rw [ltE]
    exact decide_eq_false (by omega)
  trans x y z h1 h2 := by
    rw [ltE] at *
    have h1 := of_decide_eq_true h1
    have h2 := of_decide_eq_true h2
    exact decide_eq_true ((cmpB_trans (nmE t x).data.toList (nmE t y).data.toList (nmE t z).data.toList (by omega) (by omega)).2 (.inl h1))
  ntrans x y z h1 h2 := by
    rw [ltE] at *
    have h1 := of_decide_eq_false h1
    have h2 := of_decide_eq_false h2
    have a := cmpB_flip (nmE t x).data.toList (nmE t y).data.toList
    have b := cmpB_flip (nmE t y).data.toList (nmE t z).data.toList
    have c := cmpB_flip (nmE t x).data.toList (nmE t z).data.toList
    have d := (cmpB_trans (nmE t z).data.toList (nmE t y).data.toList (nmE t x).data.toList (by omega) (by omega)).1
    exact decide_eq_false (by omega)

theorem celI_len (t : Tr) (vs : List Value) : ∀ is : List Nat, (celI t vs is).length = is.length * 2
  | [] => rfl
  | _ :: r => by simp only [celI, List.length_cons, celI_len t vs r]; omega
theorem celI_get (t : Tr) (vs : List Value) : ∀ (is : List Nat) (j : Nat), j < is.length * 2 → (celI t vs is)[j]? = some ((encE t vs (is[j / 2]!))[j % 2]!)
  | [], j, h => by simp at h
  | i :: r, 0, _ => rfl
  | i :: r, 1, _ => rfl
  | i :: r, j + 2, h => by
    have h' : j < r.length * 2 := by simp only [List.length_cons] at h; omega
    have e := celI_get t vs r j h'
    rw [show (j + 2) / 2 = j / 2 + 1 by omega, show (j + 2) % 2 = j % 2 by omega]
    simpa [celI] using e
theorem flatE (t : Tr) (vs : List Value) (d : Array Nat) : (flatK (encE t vs) 2 d).toList = celI t vs d.toList := by
  apply List.ext_getElem?
  intro j
  by_cases h : j < d.size * 2
  · rw [celI_get t vs _ j (by simpa using h), Array.getElem?_toList]
    have e := get_flatK (encE t vs) 2 d j h
    rw [getElem!_pos _ j (by simpa using h)] at e
    rw [Array.getElem?_eq_getElem (by simpa using h), e]
    congr 3
    have h2 : j / 2 < d.size := by omega
    rw [getElem!_pos d _ h2, getElem!_pos d.toList _ (by simpa using h2)]
    simp
  · rw [List.getElem?_eq_none (by simp; omega), List.getElem?_eq_none (by rw [celI_len]; simp; omega)]
section
variable {w w' : World} {P : Nat → Prop}
theorem rowP_at : ∀ {vs : List Value} {t : Tr} {i : Nat}, RowP w P vs t → i < t.len → ∃ A n c, slE vs i = .slice A n c ∧ n ≤ c ∧ c ≤ maxLen ∧ HoldsP w P A n (kdE t i)
  | [], .nil, i, _, h => by simp [Tr.len] at h
  | .string _ :: .slice A n c :: vs, .cons _ _ r, 0, ⟨_, h2, h3, h4, _⟩, _ => ⟨A, n, c, rfl, h2, h3, h4⟩
  | .string _ :: .slice A n c :: vs, .cons _ _ r, i + 1, ⟨_, _, _, _, h5⟩, h => by
    have := rowP_at (i := i) h5 (by simp only [Tr.len] at h; omega)
    simpa [slE, kdE] using this
theorem rowP_ofI {vs : List Value} {t : Tr} (h : RowP w P vs t) : ∀ {is : List Nat}, (∀ i ∈ is, i < t.len) → RowP w P (celI t vs is) (ofI t is)
  | [], _ => trivial
  | i :: r, hi => by
    obtain ⟨A, n, c, e, h1, h2, h3⟩ := rowP_at h (hi i (by simp))
    rw [celI, ofI, e]
    exact ⟨rfl, h1, h2, h3, rowP_ofI h (fun j hj => hi j (by simp [hj]))⟩
theorem rowP_cel : ∀ {vs : List Value} {t : Tr}, RowP w P vs t → ∀ (j : Nat), j < t.len * 2 → vs[j]? = some ((encE t vs (j / 2))[j % 2]!)
  | [], .nil, _, j, h => by simp [Tr.len] at h
  | .string s :: .slice A n c :: vs, .cons s' _ r, h0, 0, h => by obtain ⟨rfl, _⟩ := h0; rfl
  | .string s :: .slice A n c :: vs, .cons s' _ r, h0, 1, h => rfl
  | .string s :: .slice A n c :: vs, .cons s' _ r, h0, j + 2, h => by
    obtain ⟨_, _, _, _, h5⟩ := h0
    have := rowP_cel h5 j (by simp only [Tr.len] at h; omega)
    rw [show (j + 2) / 2 = j / 2 + 1 by omega, show (j + 2) % 2 = j % 2 by omega]
    simpa [encE, nmE, slE] using this
end
end Go.Proofs.YtlcbhooiinaalaaGreatDoor.Cv
namespace Go.Proofs.YtlcbhooiinaalaaGreatDoor.Cv
open Go.RowKit Go.Proofs.YtlcbhooiinaalaaGreatDoor.Jd Go.Proofs.YtlcbhooiinaalaaGreatDoor.Li Go.Proofs.YtlcbhooiinaalaaGreatDoor.Cl
set_option maxRecDepth 100000

theorem ownsRow_put2 {w : World} {base : Nat} {e : TypeId} {g n cap q : Nat} {xs : List Value} {F : Array Value} (h : w.ownsRow base e 2 (.slice (some ⟨g, 0, none⟩) n cap) n xs) (hF : F.size = n * 2) :
    (Sort.putRow id (Sort.ahead w q) g 0 F).ownsRow base e 2 (.slice (some ⟨g, 0, none⟩) n cap) n F.toList := by
  rcases h.2 with ⟨e0, _⟩ | ⟨g', cap', cur, e0, hb, hg, hn, hm, hs, ht⟩
  · cases e0
  · injection e0 with e1 _ e3
    injection e1 with e1
    injection e1 with e1
    subst e1; subst e3
    refine ⟨by simpa using hF, .inr ⟨g, cap, Sort.putCells id 0 F cur, rfl, hb, ?_, hn, hm, by simpa [Sort.putCells] using hs, ?_⟩⟩
    · simp [Sort.putRow, Sort.mapBlock, Sort.ahead, Array.getElem?_modify, hg, Sort.onCells]
    · apply List.ext_getElem?
      intro j
      rw [List.getElem?_take, Array.getElem?_toList, Array.getElem?_toList]
      by_cases hj : j < n * 2
      · have hjc : j < cur.size := by omega
        have hjF : j < F.size := by omega
        simp only [if_pos hj, Sort.putCells, Array.getElem?_mapIdx, Array.getElem?_eq_getElem hjc, Array.getElem?_eq_getElem hjF, Option.map_some]
        rw [if_pos (by omega)]
        simp [getElem!_pos, hjF]
      · rw [if_neg hj, Array.getElem?_eq_none (by omega)]

theorem edg_sorted {t : Tr} {vs : List Value} {w : World} {base g n cap : Nat} (h : Edg w base base (some ⟨g, 0, none⟩) n cap t vs) (hB : base ≤ w.heap.size) (hgb : base ≤ g) (D : Array Nat) (hD : D.size = n) (hi : ∀ i ∈ D.toList, i < t.len) (m : Nat) (os : Array Obj) :
    Edg (sortWorldK (encE t vs) 2 w g 0 m D os) base base (some ⟨g, 0, none⟩) n cap (ofI t D.toList) (celI t vs D.toList) ∧ Below base w (sortWorldK (encE t vs) 2 w g 0 m D os) := by
  have own1 := ownsRow_put2 (q := m) (F := Sort.flatK (encE t vs) 2 D) h.own (by simp [hD])
  rw [flatE] at own1
  have own2 := Lib.ownsRow_grow own1 0 os
  have b1 : Below base w (Sort.putRow id (Sort.ahead w m) g 0 (Sort.flatK (encE t vs) 2 D)) := Lib.below_putRow (Below.refl base w) hgb
  have b2 := Lib.below_grow (Sort.putRow id (Sort.ahead w m) g 0 (Sort.flatK (encE t vs) 2 D)).heap.size (Sort.putRow id (Sort.ahead w m) g 0 (Sort.flatK (encE t vs) 2 D)) (Nat.le_refl _) 0 os
  have b3 := Lib.below_grow base (Sort.putRow id (Sort.ahead w m) g 0 (Sort.flatK (encE t vs) 2 D)) (Nat.le_trans hB b1.size) 0 os
  refine ⟨⟨own2, ?_⟩, b1.trans b3⟩
  refine ((rowP_ofI h.row hi).keep (w' := sortWorldK (encE t vs) 2 w g 0 m D os) fun b o hb => ?_).more fun b hb => ⟨hb.1, Nat.lt_of_lt_of_le hb.2.1 (Nat.le_trans b1.size b3.size), hb.2.2⟩
  have hne : b ≠ g := fun e => hb.2.2 (by rw [e]; rfl)
  have e1 := b2.cell (p := ⟨b, o, none⟩) (Nat.lt_of_lt_of_le hb.2.1 b1.size)
  have e2 := Sort.cell?_putRow_other id (Sort.ahead w m) g 0 (Sort.flatK (encE t vs) 2 D) ⟨b, o, none⟩ (Or.inl hne)
  exact e1.trans e2

theorem pdq_mem (t : Tr) : (Sort.pdq (ltOf (cfE t)) (Array.range t.len) 0 t.len (Lib.bitLen t.len) true true).size = t.len ∧ (Sort.pdq (ltOf (cfE t)) (Array.range t.len) 0 t.len (Lib.bitLen t.len) true true).toList.Perm (List.range t.len) ∧ Sort.SortedIn (ltOf (cfE t)) 0 t.len (Sort.pdq (ltOf (cfE t)) (Array.range t.len) 0 t.len (Lib.bitLen t.len) true true) := by
  have hs := Sort.pdq_sorts (ltOf (cfE t)) (swoE t) (Array.range t.len) 0 t.len (Lib.bitLen t.len) true true (Nat.zero_le _) (by simp) (Or.inl rfl)
  obtain ⟨⟨h1, _, h3⟩, h4⟩ := hs
  have h1' : (Sort.pdq (ltOf (cfE t)) (Array.range t.len) 0 t.len (Lib.bitLen t.len) true true).size = t.len := by simpa using h1
  refine ⟨h1', ?_, h4⟩
  have ex : ∀ (d : Array Nat) (n : Nat), d.size = n → d.extract 0 n = d := fun d n h => by subst h; simp
  have e1 := ex _ _ h1'
  have e2 := ex (Array.range t.len) t.len (by simp)
  rw [e1, e2] at h3
  simpa using h3
theorem srtE_nil : srtE .nil = .nil := by
  have h := (pdq_mem .nil).1
  unfold srtE
  generalize Sort.pdq (ltOf (cfE .nil)) (Array.range (Tr.len .nil)) 0 (Tr.len .nil) (Lib.bitLen (Tr.len .nil)) true true = D at h ⊢
  have h' : D.size = 0 := h
  have e : D.toList = [] := List.eq_nil_of_length_eq_zero (by simpa using h')
  rw [e]; rfl

set_option maxHeartbeats 2000000 in
theorem sortEdge_none (fv : Value) (w : World) : Calls Tryz.prog 122 #[.slice none 0 0, fv] w fun e w' => e = .returned (.tuple #[]) ∧ w' = w := by
  have HP := Lib.hid (fun lim W => AnyF.pdqsortCmpFunc_none Tryz.sortEdge none 0 lim fv W)
  have HL := Lib.hid (Tryz.bits_Len 0 w (by omega) (by omega))
  go_enter Tryz.func122, Tryz.ntmps122
  go_wp2_with fail
  (with_reducible refine HL.out.mono ?_)
  rintro e w' ⟨rfl, rfl⟩
  go_wp2_with fail
  refine (HP.out _ _).mono ?_
  rintro e w' ⟨rfl, rfl⟩
  go_wp2_with fail
  go_end0
  exact ⟨rfl, rfl⟩

set_option maxHeartbeats 4000000 in
theorem inOrd_E : InOrd srtE := by
  intro t A n c base vs w h hB hn
  have hlen := h.len
  have hC : ∃ vs', Calls Tryz.prog 122 #[.slice A n c, .func (.func 123) #[] #[]] w fun e w' => e = .returned (.tuple #[]) ∧ Edg w' base base A n c (srtE t) vs' ∧ Below base w w' := by
    rcases h.own.2 with ⟨e0, e2⟩ | ⟨g, cap', cur, e0, hb, hg, hnc, hm, hs, ht⟩
    · injection e0 with e1 _ e3
      subst e1; subst e2; subst e3
      have et : t = .nil := by cases t with
        | nil => rfl
        | cons _ _ _ => simp [Tr.len] at hlen
      subst et
      refine ⟨[], (sortEdge_none _ w).mono ?_⟩
      rintro e w' ⟨rfl, rfl⟩
      exact ⟨rfl, by rw [srtE_nil]; exact Edg.nil _ _ _, Below.refl _ _⟩
    · injection e0 with e1 _ e3
      subst e1; subst e3
      have hgs : g < w.heap.size := (Array.getElem?_eq_some_iff.1 hg).1
      have hH : Sort.HoldsK (encE t vs) 2 w g 0 (Array.range t.len) := by
        intro j hj
        have hj' : j < t.len * 2 := by simpa using hj
        refine ⟨?_, by simp [World.frozen?, hg]⟩
        have e1 := rowCells h.own j _ (rowP_cel h.row j hj')
        rw [Addr.add_lit] at e1
        rw [e1, Sort.get_flatK _ _ _ _ (by simpa using hj')]
        rw [getElem!_pos (Array.range t.len) (j / 2) (by simp; omega)]
        simp
      have eg : ∀ args w, (callFunc 123 args).run Tryz.prog w = .ok (.enter 123 args) w := enters_of Tryz.func123 (by kernel_rfl) rfl
      have hcmp : CmpLays Tryz.prog 123 #[] (encE t vs) 2 (cfE t) g 0 (Array.range t.len).size w := by
        intro m os dk _ x y
        obtain ⟨A1, n1, c1, h1⟩ := slE_form vs x
        obtain ⟨A2, n2, c2, h2⟩ := slE_form vs y
        simp only [encE, h1, h2]
        refine (cmp1_any (nmE t x) (nmE t y) A1 A2 n1 c1 n2 c2 _).mono ?_
        rintro e w' ⟨rfl, rfl⟩
        exact ⟨rfl, 0, _, by rw [Sort.alloc_eq_grow, Sort.alloc_eq_grow, Sort.grow_grow]; rfl⟩
      have hc := sortEdge_eq (encE t vs) (fun _ => rfl) (fun x v hv => by
        obtain ⟨A1, n1, c1, h1⟩ := slE_form vs x
        simp only [encE, h1, List.mem_cons, List.not_mem_nil, or_false] at hv
        rcases hv with rfl | rfl <;> rfl) (cfE t) (swoE t) 123 #[] g 0 c (Array.range t.len) w eg hcmp hH hgs (by simp; omega)
      rw [Array.size_range] at hc
      subst hlen
      obtain ⟨p1, p2, _⟩ := pdq_mem t
      refine ⟨celI t vs (Sort.pdq (ltOf (cfE t)) (Array.range t.len) 0 t.len (Lib.bitLen t.len) true true).toList, hc.mono ?_⟩
      rintro e w' ⟨rfl, m, os, rfl⟩
      exact ⟨rfl, edg_sorted h hB hb _ p1 (fun i hi => by have := p2.mem_iff.1 hi; simpa using this) m os⟩
  obtain ⟨vs', hC⟩ := hC
  have HC := Lib.hid hC
  clear hC hlen h
  go_enter Tryz.func78, Tryz.ntmps78
  go_wp2_with fail
  (with_reducible refine HC.out.mono ?_)
  rintro e w' ⟨rfl, h1, h2⟩
  go_wp2_with fail
  go_ret
  exact ⟨vs', rfl, h1, h2⟩
end Go.Proofs.YtlcbhooiinaalaaGreatDoor.Cv
