/- ini: a row of parts of one's own, being grown. No conditions. · ini.partsOf: the parts of lines. Conditions: at most 5000 lines, of 4000 bytes; MaxLen's cell. · ini.keysOf, ini.treeOf: the tree of parts. Conditions: fewer than 90000 rows and parts. · ini: bounds of what is read. No conditions. -/
import Derived.Test.YtapgaglkkgbgkaaGreatDoorMwInTb
import Derived.Test.YtapgaglkkgbgkaaGreatDoorMwInRow
import Derived.Test.YtapgaglkkgbgkaaGreatDoorMwCvGrow
import Derived.Deep.RegionHeld3
import Derived.Outline
import Derived.Test.YtapgaglkkgbgkaaGreatDoorMwEdg
import Derived.Deep.RegionWith
namespace Go.Proofs.YtapgaglkkgbgkaaGreatDoor.In
open Go.RowKit Go.Proofs.YtapgaglkkgbgkaaGreatDoor.Li Go.Proofs.YtapgaglkkgbgkaaGreatDoor.Cv
set_option maxRecDepth 100000

theorem store_own {w : World} {base size n c g p : Nat} {e : TypeId} {xs : List Value} (h : w.ownsRow base e size (.slice (some ⟨g, 0, none⟩) n c) n xs) (u : Value) :
    (w.setCell ⟨g, p, none⟩ u).ownsRow base e size (.slice (some ⟨g, 0, none⟩) n c) n (xs.set p u) := by
  obtain ⟨h1, hr⟩ := h
  refine ⟨by rw [List.length_set]; exact h1, ?_⟩
  rcases hr with ⟨e1, _⟩ | ⟨g', cap, cur, e1, hg, hh, hcap, hmx, hsz, htk⟩
  · cases e1
  · injection e1 with e1 _ e3
    injection e1 with e1
    injection e1 with e1 _ _
    subst e1; subst e3
    refine .inr ⟨g, c, cur.setIfInBounds p u, rfl, hg, ?_, hcap, hmx, by simp [hsz], ?_⟩
    · rw [heap_setCell_same w g p _ _ _ hh]
    · rw [Array.toList_setIfInBounds, List.take_set, htk]
theorem elem_part : Elem Tryz.prog 57 108 (.agg #[.string ⟨#[]⟩, .slice none 0 0]) 2 40 := ⟨Tryz.underlying57, by kernel_rfl, rfl, by omega⟩
theorem elem_rowI : ElemB Tryz.prog 106 114 (.agg #[.string ⟨#[]⟩, .string ⟨#[]⟩, .int .i64 0, .string ⟨#[]⟩, .string ⟨#[]⟩, .int .i64 0]) 6 80 := ⟨Tryz.underlying106, by kernel_rfl, rfl, by omega⟩
theorem src_part (W : World) (s : ByteArray) (g : Nat) (hg : g = W.heap.size) : Src Tryz.prog 2 57 (.slice (some ⟨g, 0, none⟩) 1 1) 1 [.string s, .slice none 0 0] (W.alloc (Obj.cells #[Value.string s, Value.slice none 0 0] 108)) := by
  subst hg
  refine Src.ofSlice _ Tryz.underlying57 ⟨W.heap.size, 0, none⟩ 1 1 [.string s, .slice none 0 0] rfl (fun j u hu => ?_) (by intro u hu; simp at hu; rcases hu with rfl | rfl <;> rfl)
  rw [Addr.add_lit, cell_of_row _ _ _ _ _ _ (heap_alloc_new W _), ← hu, Nat.zero_add]
  simp
theorem src_rowI (V : World) (t e s v : ByteArray) (k p : Nat) (g : Nat) (hV : V.heap[g]? = some (Obj.cells #[Value.string t, Value.string e, Value.int .i64 k, Value.string s, Value.string v, Value.int .i64 p] 114)) : Src Tryz.prog 6 106 (.slice (some ⟨g, 0, none⟩) 1 1) 1 [.string t, .string e, .int .i64 k, .string s, .string v, .int .i64 p] V := by
  refine Src.ofSlice _ Tryz.underlying106 ⟨g, 0, none⟩ 1 1 [.string t, .string e, .int .i64 k, .string s, .string v, .int .i64 p] rfl (fun j u hu => ?_) (by intro u hu; simp at hu; rcases hu with rfl | rfl | rfl | rfl | rfl | rfl <;> rfl)
  rw [Addr.add_lit, cell_of_row _ _ _ _ _ _ hV, ← hu, Nat.zero_add]
  simp
section
variable {w w' : World} {base n c m d : Nat} {A L : Option Addr} {done : List Pt} {nm : Bs} {rows : List Ro} {vs : List Value}
theorem OwnPs.start (w : World) : OwnPs (w.alloc (Obj.cells #[Value.string ⟨#[]⟩, Value.slice none 0 0] 108)) w.heap.size (some ⟨w.heap.size, 0, none⟩) 1 1 [] [] [] [] none 0 0 :=
  ⟨⟨rfl, .inr ⟨w.heap.size, 1, #[.string ⟨#[]⟩, .slice none 0 0], rfl, Nat.le_refl _, heap_alloc_new w _, Nat.le_refl _, by simp [maxLen], rfl, rfl⟩⟩, World.ownsRow_nil _ _ _ _, trivial, fun g hg => by cases hg⟩
theorem OwnPs.push {A2 : Option Addr} {c2 : Nat} {nm2 : Bs} (h : OwnPs w base A n c done nm rows vs L m d) (ho : w'.ownsRow base 108 2 (.slice A2 (n + 1) c2) (n + 1) ((vs ++ [.string ⟨nm.toArray⟩, .slice L m d]) ++ [.string ⟨nm2.toArray⟩, .slice none 0 0]))
    (hg : w.grownBy w' (Value.slice A n c).ownBlock) (hat : ∀ a, A2 = some a → w.heap.size ≤ a.block ∨ some a.block = (Value.slice A n c).ownBlock) : OwnPs w' base A2 (n + 1) c2 (done ++ [⟨nm, rows⟩]) nm2 [] (vs ++ [.string ⟨nm.toArray⟩, .slice L m d]) none 0 0 := by
  refine ⟨ho, World.ownsRow_nil _ _ _ _, ?_, fun g hg => by cases hg⟩
  have hcap := h.cap
  have hlen := h.len
  have key : PtV w (fun b => base ≤ b ∧ b < w.heap.size ∧ some b ≠ (Value.slice A n c).ownBlock) (vs ++ [.string ⟨nm.toArray⟩, .slice L m d]) (done ++ [⟨nm, rows⟩]) := by
    refine (h.old.more fun b hb => ⟨hb.1, hb.2.1, hb.2.2.1⟩).app ⟨rfl, hcap.2.2.1, hcap.2.2.2, ⟨hlen.2, (CellsP.own h.last).more fun b hb => ⟨hb.1, hb.2.1, fun e => h.apart b hb.2.2 e.symm⟩⟩, trivial⟩
  refine (key.keep (w' := w') fun b o hb => World.cell?_of_block (hg.block b hb.2.1 hb.2.2)).more fun b hb => ⟨hb.1, Nat.lt_of_lt_of_le hb.2.1 hg.size, fun e => ?_, fun e => by cases e⟩
  cases A2 with
  | none => cases e
  | some a =>
    have e : b = a.block := by injection e
    rcases hat a rfl with h1 | h1
    · have := hb.2.1; omega
    · exact hb.2.2 (by rw [e]; exact h1)
theorem OwnPs.row {L2 : Option Addr} {d2 g : Nat} {r : Ro} (h : OwnPs w base (some ⟨g, 0, none⟩) n c done nm rows vs L m d) (ho : w'.ownsRow base 114 6 (.slice L2 (m + 1) d2) (m + 1) (rcells rows ++ rcells [r]))
    (hg : w.grownBy w' (Value.slice L m d).ownBlock) (hat : ∀ a, L2 = some a → w.heap.size ≤ a.block ∨ some a.block = (Value.slice L m d).ownBlock) : OwnPs (w'.setCell ⟨g, (n - 1) * 2 + 1, none⟩ (.slice L2 (m + 1) d2)) base (some ⟨g, 0, none⟩) n c done nm (rows ++ [r]) vs L2 (m + 1) d2 := by
  have hlen := h.len
  have hl2 := h.old.length
  have hgl : g < w.heap.size := by
    obtain ⟨g', e, _, hl, _⟩ := h.at_
    injection e with e
    injection e with e
    omega
  have hap : ∀ q, (Value.slice L2 (m + 1) d2).ownBlock = some q → w.heap.size ≤ q ∨ (Value.slice L m d).ownBlock = some q := fun q hq => by
    cases L2 with
    | none => cases hq
    | some a =>
      have e : a.block = q := by injection hq
      rcases hat a rfl with h1 | h1
      · exact .inl (by omega)
      · exact .inr (by rw [← h1, e])
  have hapart : ∀ q, (Value.slice L2 (m + 1) d2).ownBlock = some q → (Value.slice (some ⟨g, 0, none⟩) n c).ownBlock ≠ some q := fun q hq e => by
    have e2 : g = q := by injection e
    rcases hap q hq with h1 | h1
    · omega
    · exact h.apart q h1 e
  refine ⟨?_, ?_, ?_, hapart⟩
  · have h1 : w'.ownsRow base 108 2 (.slice (some ⟨g, 0, none⟩) n c) n (vs ++ [.string ⟨nm.toArray⟩, .slice L m d]) := World.ownsRow.kept h.own hg (.inr fun e => h.apart g e.symm rfl)
    have h2 := store_own (p := (n - 1) * 2 + 1) h1 (.slice L2 (m + 1) d2)
    rw [List.set_append_right _ _ (by omega), show (n - 1) * 2 + 1 - vs.length = 1 by omega] at h2
    exact h2
  · rw [rcells_append]
    exact ownsRow_setCell_other ho (fun e => hapart g e rfl) _
  · refine (h.old.keep (w' := w'.setCell ⟨g, (n - 1) * 2 + 1, none⟩ (.slice L2 (m + 1) d2)) fun b o hb => ?_).more fun b hb => ⟨hb.1, Nat.lt_of_lt_of_le hb.2.1 (by simp [World.setCell]; exact hg.size), hb.2.2.1, fun e => ?_⟩
    · have hbg : b ≠ g := fun e => hb.2.2.1 (by rw [e]; rfl)
      exact (World.cell?_setCell_other _ _ _ _ (by intro e; injection e with e; exact hbg e.symm)).trans (World.cell?_of_block (hg.block b hb.2.1 hb.2.2.2))
    · rcases hap b e.symm with h1 | h1
      · have := hb.2.1; omega
      · exact hb.2.2.2 h1.symm
end
end Go.Proofs.YtapgaglkkgbgkaaGreatDoor.In
namespace Go.Proofs.YtapgaglkkgbgkaaGreatDoor.In
open Go.RowKit Go.Proofs.YtapgaglkkgbgkaaGreatDoor.Li Go.Proofs.YtapgaglkkgbgkaaGreatDoor.Cv
set_option maxRecDepth 100000

theorem lastP_snoc (ps : List Pt) (x : Pt) : lastP (ps ++ [x]) = x := by rw [lastP, List.getLast?_concat]; rfl
theorem addI_old {done : List Pt} {nm : Bs} {rows : List Ro} {r : Ro} (h : ¬ r.kind = 2) : addI (done ++ [⟨nm, rows⟩]) r = done ++ [⟨nm, rows ++ [r]⟩] := by
  rw [addI, if_neg h, lastP_snoc, List.dropLast_concat]
theorem addI_new {ps : List Pt} {r : Ro} (h : r.kind = 2) : addI ps r = ps ++ [⟨r.name, [] ++ [r]⟩] := by rw [addI, if_pos h]; rfl
def PoP (w : World) (o : List Pt × Nat × Int) (en : Ending) (w' : World) : Prop :=
  ∃ A c, en = .returned (.tuple #[.slice A o.1.length c, .int .i64 (o.2.1 : Nat), .int .i64 o.2.2]) ∧ PartsP w' (fun b => w.heap.size ≤ b ∧ b < w'.heap.size) A o.1.length o.1 ∧ o.1.length ≤ c ∧ c ≤ maxLen ∧ Below w.heap.size w w'

set_option maxHeartbeats 16000000 in
theorem partsOf_any (ls : List Ln) (A : Option Addr) (n c B : Nat) (w : World) (h : SeesL w B A n ls) (hB : B ≤ w.heap.size) (hn : n ≤ 5000) (hz : ∀ x ∈ ls, x.1.length ≤ 4000) (hG : Gl w) :
    Calls Tryz.prog 48 #[.slice A n c] w (PoP w (partsI [⟨[], []⟩] 0 ls)) := by
  obtain ⟨R, hR⟩ : ∃ R, R = partsI [⟨[], []⟩] 0 ls := ⟨_, rfl⟩
  rw [← hR]
  have HR := Lib.hid hR
  have Hl := Lib.hid h.len
  have HH := Lib.hid h
  have Hz := Lib.hid hz
  have HG := Lib.hid hG
  clear h hz hG hR
  go_enter Tryz.func48, Tryz.ntmps48
  go_wp2_with fail
  go_loopw [5, 15] (fun a i wr => ∃ (k : Nat) (A5 : Option Addr) (n5 c5 : Nat) (done : List Pt) (nm : Bs) (rows : List Ro) (vs : List Value) (L : Option Addr) (m d : Nat), k ≤ n ∧ a = .slice A5 n5 c5 ∧ i = .int .i64 k ∧ Hid (OwnPs wr w.heap.size A5 n5 c5 done nm rows vs L m d) ∧ Hid (Below w.heap.size w wr) ∧ Hid (R = partsI (done ++ [⟨nm, rows⟩]) k (ls.drop k)) ∧ Hid (done.length ≤ k ∧ rows.length ≤ k)) (fun _ i _ => n - (intOf i).toNat)
  case atStart => exact ⟨0, _, 1, 1, [], [], [], [], none, 0, 0, Nat.zero_le _, rfl, rfl, Lib.hid (OwnPs.start w), Lib.hid ((Below.refl _ _).alloc (Nat.le_refl _) _), HR, Lib.hid ⟨Nat.le_refl _, Nat.le_refl _⟩⟩
  case round =>
    obtain ⟨k, A5, n5, c5, done, nm, rows, vs, L, m, d, hk, rfl, rfl, HO, HW, HF, HL⟩ := hrel
    by_cases hlt : k < n
    · have hkl : k < ls.length := by have := Hl.out; omega
      obtain ⟨x, hx⟩ : ∃ x, ls[k]? = some x := ⟨_, List.getElem?_eq_getElem hkl⟩
      have hxe : ls[k] = x := (List.getElem?_eq_some_iff.1 hx).2
      have hxm := List.mem_of_getElem? hx
      obtain ⟨b, o, rfl, hbl, hc1, hc2⟩ := (HH.out.below (HW.out.mono hB)).at_ hx
      obtain ⟨x1, hx1⟩ : ∃ x1 : ByteArray, x1 = ⟨x.1.toArray⟩ := ⟨_, rfl⟩
      obtain ⟨x2, hx2⟩ : ∃ x2 : ByteArray, x2 = ⟨x.2.toArray⟩ := ⟨_, rfl⟩
      rw [show Li.encs x.1 = .string x1 by rw [hx1]; rfl] at hc1
      rw [show Li.encs x.2 = .string x2 by rw [hx2]; rfl] at hc2
      have hxx : x = (x1.data.toList, x2.data.toList) := by rw [hx1, hx2]
      have hx1s : x1.size ≤ 4000 := by
        have e : x1.size = x.1.length := by rw [hx1, mk_size]
        rw [e]
        exact Hz.out x hxm
      have hF := HF.out
      rw [List.drop_eq_getElem_cons hkl, hxe, partsI] at hF
      have hkn : (k : Int) < (n : Int) := by omega
      have hk0 : (0 : Int) ≤ (k : Int) := by omega
      obtain ⟨W1, hW1⟩ : ∃ W, W = wr.alloc (Obj.cells #[.string x1, .string x2] 85) := ⟨_, rfl⟩
      have hb1 : Below wr.heap.size wr W1 := by rw [hW1]; exact (Below.refl _ _).alloc (Nat.le_refl _) _
      have hg1 : W1.heap[wr.heap.size]? = some (Obj.cells #[.string x1, .string x2] 85) := by rw [hW1]; exact heap_alloc_new wr _
      have hl1 : wr.heap.size < W1.heap.size := (Array.getElem?_eq_some_iff.1 hg1).1
      have hp0 : W1.cell? ⟨wr.heap.size, 0, none⟩ = some (.string x1) := by rw [cell_of_row _ _ _ _ _ _ hg1]; rfl
      have hp1 : W1.cell? ⟨wr.heap.size, 1, none⟩ = some (.string x2) := by rw [cell_of_row _ _ _ _ _ _ hg1]; rfl
      have hG1 : Gl W1 := (HG.out.below HW.out).below hb1
      obtain ⟨R0, hR0⟩ : ∃ R0, R0 = rowI x := ⟨_, rfl⟩
      rw [← hR0] at hF
      obtain ⟨s1, s2, s3, s4, kd, p, hrv⟩ : ∃ (s1 s2 s3 s4 : ByteArray) (kd p : Nat), R0 = ⟨(s1.data.toList, s2.data.toList), kd, s3.data.toList, s4.data.toList, p⟩ := ⟨⟨R0.ln.1.toArray⟩, ⟨R0.ln.2.toArray⟩, ⟨R0.name.toArray⟩, ⟨R0.val.toArray⟩, R0.kind, R0.pos, rfl⟩
      have hRow : Calls Tryz.prog 68 #[.agg #[.string x1, .string x2]] W1 fun e w' => e = .returned (.agg #[.string s1, .string s2, .int .i64 kd, .string s3, .string s4, .int .i64 p]) ∧ Below W1.heap.size W1 w' := by
        have := rowOf_any x1 x2 W1 hx1s hG1
        rw [← hxx, ← hR0, hrv] at this
        exact this
      have HRow := Lib.hid hRow
      rw [hrv] at hF
      have HF2 := Lib.hid hF
      have Hlt := Lib.hid hlt
      have HB1 := Lib.hid hb1
      clear hkl hx hxe hxm hlt hx1 hx2 hxx hx1s hF hb1 hg1 hG1 hR0 hrv hRow HF hl1
      go_upto_region 5 with (fail)
      rw [← hW1]
      clear hW1
      go_upto_region 6 with (go_at_call 68; (with_reducible refine HRow.out.mono ?_); rintro e w2 ⟨rfl, hb2⟩)
      obtain ⟨W3, hW3⟩ : ∃ W, W = w2.alloc (Obj.cells #[.string s1, .string s2, .int .i64 kd, .string s3, .string s4, .int .i64 p] 114) := ⟨_, rfl⟩
      rw [← hW3]
      have hb3 : Below w2.heap.size w2 W3 := by rw [hW3]; exact (Below.refl _ _).alloc (Nat.le_refl _) _
      have hbx : W3.heap[w2.heap.size]? = some (Obj.cells #[.string s1, .string s2, .int .i64 kd, .string s3, .string s4, .int .i64 p] 114) := by rw [hW3]; exact heap_alloc_new w2 _
      have hbr3 : Below wr.heap.size wr W3 := HB1.out.trans ((hb2.trans (hb3.mono hb2.size)).mono HB1.out.size)
      have hwr2 : wr.heap.size ≤ w2.heap.size := Nat.le_trans HB1.out.size hb2.size
      have HW3 := Lib.hid (HW.out.trans (hbr3.mono HW.out.size))
      have HO3 := Lib.hid (HO.out.below hbr3)
      have hlq : ∀ q, (Value.slice L m d).ownBlock = some q → q < w2.heap.size := fun q hq => Nat.lt_of_lt_of_le (HO.out.last.lt q hq).2 hwr2
      have hall := HO3.out.parts
      have hcap3 := HO3.out.cap
      have hl3 := HO3.out.len
      have hFa := fault_any (done ++ [⟨nm, rows⟩]) s1 s2 s3 s4 kd p A5 n5 c5 W3 (hall.more fun q hq => hq.2) (by have := HL.out; omega) (by rw [lastP_snoc]; have := HL.out; dsimp only; omega) (by simp)
      obtain ⟨v, hv⟩ : ∃ v, v = faultI (done ++ [⟨nm, rows⟩]) ⟨(s1.data.toList, s2.data.toList), kd, s3.data.toList, s4.data.toList, p⟩ := ⟨_, rfl⟩
      rw [← hv] at hFa
      have hF3 := HF2.out
      rw [← hv] at hF3
      have HFa := Lib.hid hFa
      have Hbx := Lib.hid hbx
      have Hlq := Lib.hid hlq
      have hbxl := (Array.getElem?_eq_some_iff.1 hbx).1
      have hpp0 : W3.cell? ⟨w2.heap.size, 0, none⟩ = some (.string s1) := by rw [cell_of_row _ _ _ _ _ _ hbx]; rfl
      have hpp1 : W3.cell? ⟨w2.heap.size, 1, none⟩ = some (.string s2) := by rw [cell_of_row _ _ _ _ _ _ hbx]; rfl
      have hpp2 : W3.cell? ⟨w2.heap.size, 2, none⟩ = some (.int .i64 kd) := by rw [cell_of_row _ _ _ _ _ _ hbx]; rfl
      have hpp3 : W3.cell? ⟨w2.heap.size, 3, none⟩ = some (.string s3) := by rw [cell_of_row _ _ _ _ _ _ hbx]; rfl
      have hpp4 : W3.cell? ⟨w2.heap.size, 4, none⟩ = some (.string s4) := by rw [cell_of_row _ _ _ _ _ _ hbx]; rfl
      have hpp5 : W3.cell? ⟨w2.heap.size, 5, none⟩ = some (.int .i64 p) := by rw [cell_of_row _ _ _ _ _ _ hbx]; rfl
      clear hb2 hb3 hbx hbr3 hlq hall hcap3 hl3 hFa hv hW3 HF2 hp0 hp1
      have hlq5 : ∀ q, (Value.slice A5 n5 c5).ownBlock = some q → q < w2.heap.size := fun q hq => Nat.lt_of_lt_of_le (HO.out.own.lt q hq).2 hwr2
      have Hlq5 := Lib.hid hlq5
      clear hlq5
      by_cases h0 : v = 0
      · subst h0
        rw [if_neg (by simp)] at hF3
        obtain ⟨j, hj⟩ : ∃ j, n5 = j + 1 := ⟨n5 - 1, by have := HO.out.len; omega⟩
        have hj1 : n5 - 1 = j := by omega
        have hw1 : IntKind.i64.wrap ((n5 : Int) - 1) = (j : Int) := by have := HO.out.len; have := HL.out; rw [IntKind.wrap_i64]; omega
        have hw2 : IntKind.i64.wrap ((n5 : Int) + 1 - 1) = (n5 : Int) := by have := HO.out.len; have := HL.out; rw [IntKind.wrap_i64]; omega
        have hw3 : IntKind.i64.wrap (n5 : Int) = (n5 : Int) := by have := HO.out.len; have := HL.out; rw [IntKind.wrap_i64]; omega
        have hj0 : (0 : Int) ≤ (j : Int) := by omega
        have hjn : (j : Int) < (n5 : Int) := by omega
        have hn0 : (0 : Int) ≤ (n5 : Int) := by omega
        have hnn : (n5 : Int) < (n5 : Int) + 1 := by omega
        have hN1 : n5 + 1 ≤ 1099511627776 := by have := HO.out.len; have := HL.out; omega
        have Hj1 := Lib.hid hj1
        clear hj hj1
        by_cases h2 : kd = 2
        · rw [addI_new h2] at hF3
          have HF4 := Lib.hid hF3
          have K2 : ((kd : Int) == 2) = true := by rw [h2]; rfl
          have hbz3 : w.heap.size ≤ W3.heap.size := HW3.out.size
          clear h2 hF3 hw1 hj0 hjn
          go_upto_region 11 with (first
            | (go_at_call 69; (with_reducible refine HFa.out.mono ?_); rintro e w4 ⟨rfl, hb4⟩; have hq2 := (hb4.cell (p := ⟨w2.heap.size, 2, none⟩) hbxl).trans hpp2; have hq3 := (hb4.cell (p := ⟨w2.heap.size, 3, none⟩) hbxl).trans hpp3; have HO4 := Lib.hid (HO3.out.below hb4); have HW4 := Lib.hid (HW3.out.trans (hb4.mono HW3.out.size)); have Hbx4 := Lib.hid ((hb4.block _ hbxl).trans Hbx.out); have hbz4 : w.heap.size ≤ w4.heap.size := HW4.out.size)
            | (at_builtin; refine wpList_append_row rfl (.tmp 33) (.tmp 37) _ _ rfl elem_part rfl rfl (HO4.out.own.alloc _) (src_part w4 s3 _ rfl) hN1 (by simp; omega) ?_; intro A6 c6 w6 ho6 hg6 hat6))
          have hal : Below w4.heap.size w4 (w4.alloc (Obj.cells #[Value.string s3, Value.slice none 0 0] 108)) := (Below.refl _ _).alloc (Nat.le_refl _) _
          have HO6 := Lib.hid ((HO4.out.below hal).push (nm2 := s3.data.toList) ho6 hg6 (fun a ha => (hat6 a ha).imp (fun e => Nat.le_of_eq e.symm) id))
          have hbx4l : w2.heap.size < w4.heap.size := (Array.getElem?_eq_some_iff.1 Hbx4.out).1
          have HBX : Hid (w6.heap[w2.heap.size]? = some (Obj.cells #[.string s1, .string s2, .int .i64 kd, .string s3, .string s4, .int .i64 p] 114)) := Lib.hid ((hg6.block _ (Nat.lt_of_lt_of_le hbx4l hal.size) (fun e => by have := Hlq5.out _ e.symm; omega)).trans ((hal.block _ hbx4l).trans Hbx4.out))
          have HWx : Hid (Below w.heap.size w w6) := Lib.hid ((HW4.out.trans (hal.mono HW4.out.size)).grown hg6 (Nat.le_trans HW4.out.size hal.size) (fun q hq => (HO4.out.own.lt q hq).1))
          clear ho6 hg6 hat6 hal hbx4l hq2 hq3 hpp0 hpp1 hpp2 hpp3 hpp4 hpp5 hbxl hb4 hbz4 hbz3 HFa HO3 HO4 HO HW3 HW4 HW
          obtain ⟨g, hAe, hgb, hgl, hca, hcb, hcf⟩ := HO6.out.at_
          have hLg : ∀ q, (Value.slice none 0 0).ownBlock = some q → g ≠ q := fun q hq e => HO6.out.apart q hq (by rw [hAe, e]; rfl)
          have hLgb : ∀ q, (Value.slice none 0 0).ownBlock = some q → w2.heap.size ≠ q := fun q hq => by cases hq
          have HO9 := HO6
          subst hAe
          have hmb : 0 + 1 ≤ 549755813888 := by decide
          rw [Nat.add_sub_cancel] at hca hcb hcf
          have hbx := HBX.out
          have hbxl : w2.heap.size < w6.heap.size := (Array.getElem?_eq_some_iff.1 hbx).1
          have HS := Lib.hid (fun (W : World) (hW : ∀ b o, b < w6.heap.size → some b ≠ (Value.slice none 0 0).ownBlock → W.cell? ⟨b, o, none⟩ = w6.cell? ⟨b, o, none⟩) => (⟨(hW g _ hgl (fun e => hLg g e.symm rfl)).trans hcb, (hW w2.heap.size _ hbxl (fun e => hLgb _ e.symm rfl)).trans (by rw [cell_of_row _ _ _ _ _ _ hbx]; rfl), (hW w2.heap.size _ hbxl (fun e => hLgb _ e.symm rfl)).trans (by rw [cell_of_row _ _ _ _ _ _ hbx]; rfl), (hW w2.heap.size _ hbxl (fun e => hLgb _ e.symm rfl)).trans (by rw [cell_of_row _ _ _ _ _ _ hbx]; rfl), (hW w2.heap.size _ hbxl (fun e => hLgb _ e.symm rfl)).trans (by rw [cell_of_row _ _ _ _ _ _ hbx]; rfl), (hW w2.heap.size _ hbxl (fun e => hLgb _ e.symm rfl)).trans (by rw [cell_of_row _ _ _ _ _ _ hbx]; rfl), (hW w2.heap.size _ hbxl (fun e => hLgb _ e.symm rfl)).trans (by rw [cell_of_row _ _ _ _ _ _ hbx]; rfl)⟩ : W.cell? ⟨g, n5 * 2 + 1, none⟩ = some (.slice none 0 0) ∧ W.cell? ⟨w2.heap.size, 0, none⟩ = some (.string s1) ∧ W.cell? ⟨w2.heap.size, 1, none⟩ = some (.string s2) ∧ W.cell? ⟨w2.heap.size, 2, none⟩ = some (.int .i64 kd) ∧ W.cell? ⟨w2.heap.size, 3, none⟩ = some (.string s3) ∧ W.cell? ⟨w2.heap.size, 4, none⟩ = some (.string s4) ∧ W.cell? ⟨w2.heap.size, 5, none⟩ = some (.int .i64 p)))
          have Hgl := Lib.hid hgl
          have Hcf := Lib.hid hcf
          have HLg := Lib.hid hLg
          have hS1 := HS.out w6.drew (fun b o _ _ => rfl)
          have hS2 := fun X : Obj => HS.out (w6.drew.alloc X) (fun b o hb _ => World.cell?_alloc_lt _ _ _ hb)
          have hbz : w.heap.size ≤ w6.heap.size := HWx.out.size
          clear hbx hbxl hgl hca hcb hcf hLg hLgb
          go_upto_region 12 with (fail)
          obtain ⟨i0, i1, i2, i3, i4, i5, i6⟩ := hS1
          have i0a := fun X : Obj => (HS.out (w6.alloc X) (fun b o hb _ => World.cell?_alloc_lt _ _ _ hb)).1
          clear hS2
          go_region_law
            ((refine step_append_big rfl (.tmp 48) (.tmp 50) _ _ rfl elem_rowI rfl rfl ((HO9.out.last.drew).alloc _) (src_rowI _ s1 s2 s3 s4 kd p _ (heap_alloc_new _ _)) hmb (by simp; omega) ?_; intro L2 d2 w7 ho7 hg7 hat7; have hS3 := HS.out w7 (fun b o hb hn => (World.cell?_of_block (hg7.block b (Nat.lt_of_lt_of_le hb (by simp)) hn)).trans (World.cell?_alloc_lt _ _ _ hb)); have hf7 : w7.frozen? ⟨g, n5 * 2 + 1, none⟩ = false := ((World.frozen?_of_block (hg7.block g (Nat.lt_of_lt_of_le Hgl.out (by simp)) (fun e => HLg.out g e.symm rfl))).trans (World.frozen?_of_block (w := w6) (Below.heap_alloc w6.drew _ _ Hgl.out))).trans Hcf.out))
          all_goals
            have hG7 : w6.grownBy w7 (Value.slice none 0 0).ownBlock := ⟨hg7.os, hg7.tape, hg7.output, Nat.le_trans (by simp) hg7.size, fun q hq hn => (hg7.block q (Nat.lt_of_lt_of_le hq (by simp)) hn).trans (Below.heap_alloc w6.drew _ _ hq)⟩
            have HP := Lib.hid (HO9.out.row (r := ⟨(s1.data.toList, s2.data.toList), kd, s3.data.toList, s4.data.toList, p⟩) ho7 hG7 (fun a ha => (hat7 a ha).imp (fun e => by rw [e]; simp) id))
            rw [Nat.add_sub_cancel] at HP
            have HW7 : Hid (Below w.heap.size w (w7.setCell ⟨g, n5 * 2 + 1, none⟩ (.slice L2 (0 + 1) d2))) := Lib.hid ((HWx.out.grown hG7 hbz (fun q hq => (HO9.out.last.lt q hq).1)).setCell (by simp only; omega) _)
            clear ho7 hg7 hat7 hG7
            go_wp2_with fail
            go_roundw
            case rel => exact ⟨k + 1, _, _, _, _, _, _, _, _, _, _, Hlt.out, rfl, by go_num, HP, HW7, HF4, Lib.hid ⟨by have := HL.out; simp; omega, by simp⟩⟩
            case measure => have := Hlt.out; simp [intOf]; omega
        · rw [addI_old h2] at hF3
          have HF4 := Lib.hid hF3
          have K2 : ((kd : Int) == 2) = false := by rw [beq_eq_false_iff_ne]; omega
          clear h2 hF3 hw2 hw3 hn0 hnn hN1
          go_upto_region 11 with (go_at_call 69; (with_reducible refine HFa.out.mono ?_); rintro e w4 ⟨rfl, hb4⟩; have hq2 := (hb4.cell (p := ⟨w2.heap.size, 2, none⟩) hbxl).trans hpp2)
          have HO4 := Lib.hid (HO3.out.below hb4)
          have HWx := Lib.hid (HW3.out.trans (hb4.mono HW3.out.size))
          have HBX := Lib.hid ((hb4.block _ hbxl).trans Hbx.out)
          clear hq2 hpp0 hpp1 hpp2 hpp3 hpp4 hpp5 hbxl hb4 HFa HO3 HO HW3 HW
          obtain ⟨g, hAe, hgb, hgl, hca, hcb, hcf⟩ := HO4.out.at_
          have hLg : ∀ q, (Value.slice L m d).ownBlock = some q → g ≠ q := fun q hq e => HO4.out.apart q hq (by rw [hAe, e]; rfl)
          have hLgb : ∀ q, (Value.slice L m d).ownBlock = some q → w2.heap.size ≠ q := fun q hq e => by have := Hlq.out q hq; omega
          have HO9 := HO4
          subst hAe
          have hmb : m + 1 ≤ 549755813888 := by have := HO4.out.len; have := HL.out; omega
          rw [Hj1.out] at hca hcb hcf
          have hbx := HBX.out
          have hbxl : w2.heap.size < w4.heap.size := (Array.getElem?_eq_some_iff.1 hbx).1
          have HS := Lib.hid (fun (W : World) (hW : ∀ b o, b < w4.heap.size → some b ≠ (Value.slice L m d).ownBlock → W.cell? ⟨b, o, none⟩ = w4.cell? ⟨b, o, none⟩) => (⟨(hW g _ hgl (fun e => hLg g e.symm rfl)).trans hcb, (hW w2.heap.size _ hbxl (fun e => hLgb _ e.symm rfl)).trans (by rw [cell_of_row _ _ _ _ _ _ hbx]; rfl), (hW w2.heap.size _ hbxl (fun e => hLgb _ e.symm rfl)).trans (by rw [cell_of_row _ _ _ _ _ _ hbx]; rfl), (hW w2.heap.size _ hbxl (fun e => hLgb _ e.symm rfl)).trans (by rw [cell_of_row _ _ _ _ _ _ hbx]; rfl), (hW w2.heap.size _ hbxl (fun e => hLgb _ e.symm rfl)).trans (by rw [cell_of_row _ _ _ _ _ _ hbx]; rfl), (hW w2.heap.size _ hbxl (fun e => hLgb _ e.symm rfl)).trans (by rw [cell_of_row _ _ _ _ _ _ hbx]; rfl), (hW w2.heap.size _ hbxl (fun e => hLgb _ e.symm rfl)).trans (by rw [cell_of_row _ _ _ _ _ _ hbx]; rfl)⟩ : W.cell? ⟨g, j * 2 + 1, none⟩ = some (.slice L m d) ∧ W.cell? ⟨w2.heap.size, 0, none⟩ = some (.string s1) ∧ W.cell? ⟨w2.heap.size, 1, none⟩ = some (.string s2) ∧ W.cell? ⟨w2.heap.size, 2, none⟩ = some (.int .i64 kd) ∧ W.cell? ⟨w2.heap.size, 3, none⟩ = some (.string s3) ∧ W.cell? ⟨w2.heap.size, 4, none⟩ = some (.string s4) ∧ W.cell? ⟨w2.heap.size, 5, none⟩ = some (.int .i64 p)))
          have Hgl := Lib.hid hgl
          have Hcf := Lib.hid hcf
          have HLg := Lib.hid hLg
          have hS1 := HS.out w4.drew (fun b o _ _ => rfl)
          have hS2 := fun X : Obj => HS.out (w4.drew.alloc X) (fun b o hb _ => World.cell?_alloc_lt _ _ _ hb)
          have hbz : w.heap.size ≤ w4.heap.size := HWx.out.size
          clear hbx hbxl hgl hca hcb hcf hLg hLgb
          go_upto_region 12 with (fail)
          obtain ⟨i0, i1, i2, i3, i4, i5, i6⟩ := hS1
          have i0a := fun X : Obj => (HS.out (w4.alloc X) (fun b o hb _ => World.cell?_alloc_lt _ _ _ hb)).1
          clear hS2
          go_region_law
            ((refine step_append_big rfl (.tmp 48) (.tmp 50) _ _ rfl elem_rowI rfl rfl ((HO9.out.last.drew).alloc _) (src_rowI _ s1 s2 s3 s4 kd p _ (heap_alloc_new _ _)) hmb (by simp; omega) ?_; intro L2 d2 w7 ho7 hg7 hat7; have hS3 := HS.out w7 (fun b o hb hn => (World.cell?_of_block (hg7.block b (Nat.lt_of_lt_of_le hb (by simp)) hn)).trans (World.cell?_alloc_lt _ _ _ hb)); have hf7 : w7.frozen? ⟨g, j * 2 + 1, none⟩ = false := ((World.frozen?_of_block (hg7.block g (Nat.lt_of_lt_of_le Hgl.out (by simp)) (fun e => HLg.out g e.symm rfl))).trans (World.frozen?_of_block (w := w4) (Below.heap_alloc w4.drew _ _ Hgl.out))).trans Hcf.out))
          all_goals
            have hG7 : w4.grownBy w7 (Value.slice L m d).ownBlock := ⟨hg7.os, hg7.tape, hg7.output, Nat.le_trans (by simp) hg7.size, fun q hq hn => (hg7.block q (Nat.lt_of_lt_of_le hq (by simp)) hn).trans (Below.heap_alloc w4.drew _ _ hq)⟩
            have HP := Lib.hid (HO9.out.row (r := ⟨(s1.data.toList, s2.data.toList), kd, s3.data.toList, s4.data.toList, p⟩) ho7 hG7 (fun a ha => (hat7 a ha).imp (fun e => by rw [e]; simp) id))
            rw [Hj1.out] at HP
            have HW7 : Hid (Below w.heap.size w (w7.setCell ⟨g, j * 2 + 1, none⟩ (.slice L2 (m + 1) d2))) := Lib.hid ((HWx.out.grown hG7 hbz (fun q hq => (HO9.out.last.lt q hq).1)).setCell (by simp only; omega) _)
            clear ho7 hg7 hat7 hG7
            go_wp2_with fail
            go_roundw
            case rel => exact ⟨k + 1, _, _, _, _, _, _, _, _, _, _, Hlt.out, rfl, by go_num, HP, HW7, HF4, Lib.hid ⟨by have := HL.out; omega, by have := HL.out; simp; omega⟩⟩
            case measure => have := Hlt.out; simp [intOf]; omega
      · rw [if_pos h0] at hF3
        have HF4 := Lib.hid hF3
        have hvb : (v != 0) = true := by simpa using h0
        clear h0 hF3
        go_wp2_with (go_at_call 69; (with_reducible refine HFa.out.mono ?_); rintro e w4 ⟨rfl, hb4⟩)
        have HW4 := Lib.hid (HW3.out.trans (hb4.mono HW3.out.size))
        refine bodyPost_ret (v := .tuple #[.slice none 0 0, .int .i64 ((k : Int) + 1), .int .i64 v]) (by simp [results, Tryz.results48, go_sem]) rfl ?_
        exact ⟨none, 0, by rw [HF4.out]; rfl, by rw [HF4.out]; exact ⟨rfl, [], .inl rfl, trivial⟩, by rw [HF4.out]; exact Nat.le_refl _, Nat.zero_le _, HW4.out⟩
    · obtain rfl : k = n := by omega
      have hF := HF.out
      rw [List.drop_of_length_le (by rw [← Hl.out]; exact Nat.le_refl _), partsI] at hF
      have HF2 := Lib.hid hF
      clear hlt hF HF
      go_wp2_with fail
      have hlen := HO.out.len
      have hcap := HO.out.cap
      refine bodyPost_ret (v := .tuple #[.slice A5 n5 c5, .int .i64 0, .int .i64 0]) (by simp [results, Tryz.results48, go_sem]) rfl ?_
      have e : (done ++ [(⟨nm, rows⟩ : Pt)]).length = n5 := by simp; omega
      refine ⟨A5, c5, by rw [HF2.out]; dsimp only; rw [e]; rfl, ?_, ?_, hcap.2.1, HW.out⟩
      · rw [HF2.out]; dsimp only; rw [e]; exact HO.out.parts
      · rw [HF2.out]; dsimp only; rw [e]; exact hcap.1
end Go.Proofs.YtapgaglkkgbgkaaGreatDoor.In
namespace Go.Proofs.YtapgaglkkgbgkaaGreatDoor.In
open Go.RowKit Go.Proofs.YtapgaglkkgbgkaaGreatDoor.Jd Go.Proofs.YtapgaglkkgbgkaaGreatDoor.Li Go.Proofs.YtapgaglkkgbgkaaGreatDoor.Cl Go.Proofs.YtapgaglkkgbgkaaGreatDoor.Cv
set_option maxRecDepth 100000

def TrP (w : World) (t : Tr) (en : Ending) (w' : World) : Prop := ∃ A c, en = .returned (.slice A t.len c) ∧ HoldsP w' (fun b => w.heap.size ≤ b ∧ b < w'.heap.size) A t.len t ∧ t.len ≤ c ∧ c ≤ maxLen ∧ Below w.heap.size w w'
theorem keys_snoc : ∀ (rs : List Ro) (r : Ro), keysT (rs ++ [r]) = if r.kind = 3 then appT (keysT rs) (.cons ⟨r.name.toArray⟩ (.cons ⟨r.val.toArray⟩ .nil .nil) .nil) else keysT rs
  | [], r => by simp only [List.nil_append, keysT]; split <;> rfl
  | x :: rs, r => by
    simp only [List.cons_append, keysT, keys_snoc rs r]
    split <;> split <;> rfl
theorem secs_snoc : ∀ (ps : List Pt) (p : Pt), secsT (ps ++ [p]) = appT (secsT ps) (.cons ⟨p.name.toArray⟩ (srtE (keysT p.rows)) .nil)
  | [], _ => rfl
  | x :: ps, p => by simp only [List.cons_append, secsT, secs_snoc ps p]; rfl
set_option maxHeartbeats 8000000 in
theorem keysOf_any (rs : List Ro) (A : Option Addr) (n c : Nat) (w : World) (h : RowsP w (· < w.heap.size) A n rs) (hn : n ≤ 90000) :
    Calls Tryz.prog 70 #[.slice A n c] w (TrP w (srtE (keysT rs))) := by
  have Hl := Lib.hid h.len
  have HH := Lib.hid h
  clear h
  go_enter Tryz.func70, Tryz.ntmps70
  go_wp2_with fail
  go_loopw [3, 8] (fun a i wr => ∃ (k q : Nat) (A3 : Option Addr) (c3 : Nat) (vs : List Value), k ≤ n ∧ q ≤ k ∧ i = .int .i64 k ∧ a = .slice A3 q c3 ∧ Hid (Edg wr w.heap.size w.heap.size A3 q c3 (keysT (rs.take k)) vs) ∧ Hid (Below w.heap.size w wr)) (fun _ i _ => n - (intOf i).toNat)
  case atStart => exact ⟨0, 0, none, 0, [], Nat.zero_le _, Nat.le_refl _, rfl, rfl, Lib.hid (Edg.nil _ _ _), Lib.hid (Below.refl _ _)⟩
  case round =>
    obtain ⟨k, q, A3, c3, vs, hk, hqk, rfl, rfl, HE, HW⟩ := hrel
    by_cases hlt : k < n
    · have hkl : k < rs.length := by have := Hl.out; omega
      obtain ⟨x, hx⟩ : ∃ x, rs[k]? = some x := ⟨_, List.getElem?_eq_getElem hkl⟩
      obtain ⟨b, o, rfl, hbl, hc1, hc2, hc3, hc4, hc5, hc6⟩ := (RowsP.keep HH.out (w' := wr) (fun b o hb => HW.out.cell (p := ⟨b, o, none⟩) hb)).at_ hx
      have htk : rs.take (k + 1) = rs.take k ++ [x] := by rw [List.take_add_one, hx]; rfl
      have hT := keys_snoc (rs.take k) x
      rw [← htk] at hT
      have hkn : (k : Int) < (n : Int) := by omega
      have hk0 : (0 : Int) ≤ (k : Int) := by omega
      obtain ⟨t1, ht1⟩ : ∃ s : ByteArray, Li.encs x.ln.1 = .string s := ⟨_, rfl⟩
      obtain ⟨t2, ht2⟩ : ∃ s : ByteArray, Li.encs x.ln.2 = .string s := ⟨_, rfl⟩
      obtain ⟨s, hs⟩ : ∃ s : ByteArray, s = ⟨x.name.toArray⟩ := ⟨_, rfl⟩
      obtain ⟨v, hv⟩ : ∃ s : ByteArray, s = ⟨x.val.toArray⟩ := ⟨_, rfl⟩
      obtain ⟨kd, hkd⟩ : ∃ q, q = x.kind := ⟨_, rfl⟩
      obtain ⟨p, hp⟩ : ∃ q, q = x.pos := ⟨_, rfl⟩
      rw [ht1] at hc1
      rw [ht2] at hc2
      rw [show Li.encs x.name = .string s by rw [hs]; rfl] at hc4
      rw [show Li.encs x.val = .string v by rw [hv]; rfl] at hc5
      rw [← hkd] at hc3
      rw [← hp] at hc6
      rw [← hs, ← hv, ← hkd] at hT
      have Hlt := Lib.hid hlt
      obtain ⟨W1, hW1⟩ : ∃ W, W = wr.alloc (Obj.cells #[.string t1, .string t2, .int .i64 kd, .string s, .string v, .int .i64 p] 114) := ⟨_, rfl⟩
      have hb1 : Below wr.heap.size wr W1 := by rw [hW1]; exact (Below.refl _ _).alloc (Nat.le_refl _) _
      have hg1 : W1.heap[wr.heap.size]? = some (Obj.cells #[.string t1, .string t2, .int .i64 kd, .string s, .string v, .int .i64 p] 114) := by rw [hW1]; exact heap_alloc_new wr _
      have hp2 : W1.cell? ⟨wr.heap.size, 2, none⟩ = some (.int .i64 kd) := by rw [cell_of_row _ _ _ _ _ _ hg1]; rfl
      have hp3 : W1.cell? ⟨wr.heap.size, 3, none⟩ = some (.string s) := by rw [cell_of_row _ _ _ _ _ _ hg1]; rfl
      have hp4 : W1.cell? ⟨wr.heap.size, 4, none⟩ = some (.string v) := by rw [cell_of_row _ _ _ _ _ _ hg1]; rfl
      have HE1 := Lib.hid (HE.out.below hb1)
      have HW1' := Lib.hid (HW.out.trans (hb1.mono HW.out.size))
      clear hlt hx hkl htk ht1 ht2 hs hv hkd hp hb1 hg1
      by_cases h3 : kd = 3
      · have K3 : ((kd : Int) == 3) = true := by rw [h3]; rfl
        rw [if_pos h3] at hT
        have HT := Lib.hid hT
        obtain ⟨W2, hW2⟩ : ∃ W, W = W1.alloc (Obj.cells #[.string v, .slice none 0 0] 56) := ⟨_, rfl⟩
        have hb2 : Below W1.heap.size W1 W2 := by rw [hW2]; exact (Below.refl _ _).alloc (Nat.le_refl _) _
        have hg2 : W2.heap[W1.heap.size]? = some (Obj.cells #[.string v, .slice none 0 0] 56) := by rw [hW2]; exact heap_alloc_new W1 _
        have hl2 : W1.heap.size < W2.heap.size := (Array.getElem?_eq_some_iff.1 hg2).1
        obtain ⟨W3, hW3⟩ : ∃ W, W = W2.alloc (Obj.cells #[.string s, .slice (some ⟨W1.heap.size, 0, none⟩) 1 1] 56) := ⟨_, rfl⟩
        have hb3 : Below W2.heap.size W2 W3 := by rw [hW3]; exact (Below.refl _ _).alloc (Nat.le_refl _) _
        have hg3 : W3.heap[W1.heap.size]? = some (Obj.cells #[.string v, .slice none 0 0] 56) := (hb3.block _ hl2).trans hg2
        have hb13 : Below W1.heap.size W1 W3 := hb2.trans (hb3.mono hb2.size)
        have HEa := Lib.hid (HE1.out.below hb13)
        have hk1 : q + 1 ≤ 1099511627776 := by omega
        have hwz : w.heap.size ≤ W3.heap.size := Nat.le_trans HW1'.out.size hb13.size
        have hrow : RowP W3 (fun b => w.heap.size ≤ b ∧ b < W3.heap.size ∧ some b ≠ (Value.slice A3 q c3).ownBlock) [.string s, .slice (some ⟨W1.heap.size, 0, none⟩) 1 1] (.cons s (.cons v .nil .nil) .nil) := by
          refine RowP.one ⟨W1.heap.size, 0, rfl, ⟨HW1'.out.size, Nat.lt_of_lt_of_le hl2 hb3.size, fun e => ?_⟩, by rw [cell_of_row _ _ _ _ _ _ hg3]; rfl, ⟨none, 0, 0, by rw [cell_of_row _ _ _ _ _ _ hg3]; rfl, Nat.le_refl _, Nat.zero_le _, rfl⟩, 0, rfl, rfl⟩ (Nat.le_refl _) (by simp [maxLen])
          have := (HE1.out.own.lt _ e.symm).2
          omega
        have Hrow := Lib.hid hrow
        have Hb13 := Lib.hid hb13
        have hW13 : (W1.alloc (Obj.cells #[.string v, .slice none 0 0] 56)).alloc (Obj.cells #[.string s, .slice (some ⟨W1.heap.size, 0, none⟩) 1 1] 56) = W3 := by rw [hW3, hW2]
        have HW13 := Lib.hid hW13
        have HEb : Hid (Edg ((W1.alloc (Obj.cells #[.string v, .slice none 0 0] 56)).alloc (Obj.cells #[.string s, .slice (some ⟨W1.heap.size, 0, none⟩) 1 1] 56)) w.heap.size w.heap.size A3 q c3 (keysT (rs.take k)) vs) := Lib.hid (by rw [hW13]; exact HEa.out)
        have hwz2 : w.heap.size ≤ ((W1.alloc (Obj.cells #[.string v, .slice none 0 0] 56)).alloc (Obj.cells #[.string s, .slice (some ⟨W1.heap.size, 0, none⟩) 1 1] 56)).heap.size := by rw [hW13]; exact hwz
        clear h3 hT hW2 hW3 hb2 hg2 hl2 hb3 hg3 hb13 hrow hW13 hwz
        go_upto_region 5 with (fail)
        rw [← hW1]
        clear hW1
        go_wp2_with (at_builtin; refine wpList_append_row rfl (.tmp 15) (.tmp 23) _ _ rfl elem_edge rfl rfl HEb.out.own (src_edge _ s (some ⟨W1.heap.size, 0, none⟩) 1 1 _ (by simp)) hk1 hwz2 ?_; intro A4 c4 w4 ho4 hg4 hat4)
        rw [HW13.out] at hg4 hat4
        have HP := HEa.out.push Hrow.out ho4 hg4 (fun a ha => (hat4 a ha).imp (fun e => Nat.le_of_eq e.symm) id)
        rw [← HT.out] at HP
        have HP := Lib.hid HP
        have HW4 : Hid (Below w.heap.size w w4) := Lib.hid ((HW1'.out.trans (Hb13.out.mono HW1'.out.size)).grown hg4 (Nat.le_trans HW1'.out.size Hb13.out.size) (fun q hq => (HEa.out.own.lt q hq).1))
        clear ho4 hg4 hat4
        go_wp2_with fail
        go_roundw
        case rel => exact ⟨k + 1, q + 1, A4, c4, _, Hlt.out, by omega, by go_num, rfl, HP, HW4⟩
        case measure => have := Hlt.out; simp [intOf]; omega
      · have K3 : ((kd : Int) == 3) = false := by rw [beq_eq_false_iff_ne]; omega
        rw [if_neg h3] at hT
        rw [← hT] at HE1
        clear h3 hT
        go_upto_region 5 with (fail)
        rw [← hW1]
        clear hW1
        go_wp2_with fail
        go_roundw
        case rel => exact ⟨k + 1, q, A3, c3, _, Hlt.out, by omega, by go_num, rfl, HE1, HW1'⟩
        case measure => have := Hlt.out; simp [intOf]; omega
    · obtain rfl : k = n := by omega
      have hE := HE.out
      rw [List.take_of_length_le (by rw [← Hl.out]; exact Nat.le_refl _)] at hE
      have hI := inOrd_E _ A3 q c3 w.heap.size vs wr hE HW.out.size (by omega)
      have HI := Lib.hid hI
      clear hlt hE HE hI
      go_wp2_with fail
      (with_reducible refine HI.out.mono ?_)
      rintro e w5 ⟨vs5, rfl, hE5, hb5⟩
      have HB5 := Lib.hid (HW.out.trans hb5)
      have HE5 := Lib.hid hE5
      clear hE5 hb5
      go_wp2_with fail
      go_ret
      have hl5 := HE5.out.len
      have hcap := HE5.out.cap
      have hh := HE5.out.holdsP (Nat.le_refl _)
      subst hl5
      exact ⟨A3, c3, rfl, hh, hcap.1, hcap.2, HB5.out⟩
set_option maxHeartbeats 16000000 in
theorem treeOf_any (p0 : Pt) (pt : List Pt) (A : Option Addr) (m c : Nat) (w : World) (h : PartsP w (· < w.heap.size) A (m + 1) (p0 :: pt)) (hc : m + 1 ≤ c) (hm : m ≤ 90000) (hr : ∀ x ∈ pt, x.rows.length ≤ 90000) :
    Calls Tryz.prog 49 #[.slice A (m + 1) c] w (TrP w (srtE (secsT pt))) := by
  have hl : m = pt.length := by have := h.len; simp only [List.length_cons] at this; omega
  have Hl := Lib.hid hl
  have Hr := Lib.hid hr
  obtain ⟨b, o, _, _, _, rfl, _⟩ := h.at_ (k := 0) (p := p0) rfl
  have hre := h.rest c hc
  rw [Nat.add_sub_cancel] at hre
  have hnc1 : (1 : Int) ≤ ((m + 1 : Nat) : Int) := by omega
  have hnc2 : (1 : Int) ≤ (m : Int) + 1 := by omega
  clear h hr
  by_cases h1 : c = 1
  · have hm0 : m = 0 := by omega
    subst h1
    subst hm0
    clear hre hl
    go_enter Tryz.func49, Tryz.ntmps49
    go_wp2_with fail
    go_loopw [3, 9] (fun a i wr => ∃ (k : Nat) (A3 : Option Addr) (c3 : Nat) (vs : List Value), k ≤ 0 ∧ i = .int .i64 k ∧ a = .slice A3 k c3 ∧ Hid (Edg wr w.heap.size w.heap.size A3 k c3 (secsT (pt.take k)) vs) ∧ Hid (Below w.heap.size w wr)) (fun _ i _ => 0 - (intOf i).toNat)
    case atStart => exact ⟨0, none, 0, [], Nat.zero_le _, rfl, rfl, Lib.hid (Edg.nil _ _ _), Lib.hid (Below.refl _ _)⟩
    case round =>
      obtain ⟨k, A3, c3, vs, hk, rfl, rfl, HE, HW⟩ := hrel
      by_cases hlt : k < 0
      · exact absurd hlt (Nat.not_lt_zero _)
      · obtain rfl : k = 0 := by omega
        have hE := HE.out
        rw [List.take_of_length_le (by rw [← Hl.out]; exact Nat.le_refl _)] at hE
        have hI := inOrd_E _ A3 0 c3 w.heap.size vs wr hE HW.out.size (by omega)
        have HI := Lib.hid hI
        clear hlt hE HE hI
        go_wp2_with fail
        (with_reducible refine HI.out.mono ?_)
        rintro e w5 ⟨vs5, rfl, hE5, hb5⟩
        have HB5 := Lib.hid (HW.out.trans hb5)
        have HE5 := Lib.hid hE5
        clear hE5 hb5
        go_wp2_with fail
        go_ret
        have hl5 := HE5.out.len
        have hcap := HE5.out.cap
        have hh := HE5.out.holdsP (Nat.le_refl _)
        rw [hl5] at hh hcap
        exact ⟨A3, c3, by rw [← hl5]; rfl, hh, hcap.1, hcap.2, HB5.out⟩
  · rw [if_neg h1] at hre
    have HH := Lib.hid hre
    clear hre hl
    go_enter Tryz.func49, Tryz.ntmps49
    go_wp2_with fail
    go_loopw [3, 9] (fun a i wr => ∃ (k : Nat) (A3 : Option Addr) (c3 : Nat) (vs : List Value), k ≤ m ∧ i = .int .i64 k ∧ a = .slice A3 k c3 ∧ Hid (Edg wr w.heap.size w.heap.size A3 k c3 (secsT (pt.take k)) vs) ∧ Hid (Below w.heap.size w wr)) (fun _ i _ => m - (intOf i).toNat)
    case atStart => exact ⟨0, none, 0, [], Nat.zero_le _, rfl, rfl, Lib.hid (Edg.nil _ _ _), Lib.hid (Below.refl _ _)⟩
    case round =>
      obtain ⟨k, A3, c3, vs, hk, rfl, rfl, HE, HW⟩ := hrel
      by_cases hlt : k < m
      · have hkl : k < pt.length := by have := Hl.out; omega
        obtain ⟨x, hx⟩ : ∃ x, pt[k]? = some x := ⟨_, List.getElem?_eq_getElem hkl⟩
        obtain ⟨b1, o1, Af, nf, cf, hAe, hbl, hc1, hc2, hrows, hncf, hcm⟩ := (HH.out.below HW.out).at_ hx
        injection hAe with hAe
        injection hAe with e1 e2
        subst e1; subst e2
        have htk : pt.take (k + 1) = pt.take k ++ [x] := by rw [List.take_add_one, hx]; rfl
        have hT := secs_snoc (pt.take k) x
        rw [← htk] at hT
        have hkn : (k : Int) < (m : Int) := by omega
        have hk0 : (0 : Int) ≤ (k : Int) := by omega
        obtain ⟨s, hs⟩ : ∃ s : ByteArray, s = ⟨x.name.toArray⟩ := ⟨_, rfl⟩
        rw [← hs] at hc1 hT
        have hnf : nf ≤ 90000 := by have := hrows.len; have := Hr.out x (List.mem_of_getElem? hx); omega
        obtain ⟨W1, hW1⟩ : ∃ W, W = wr.alloc (Obj.cells #[.string s, .slice Af nf cf] 108) := ⟨_, rfl⟩
        have hb1 : Below wr.heap.size wr W1 := by rw [hW1]; exact (Below.refl _ _).alloc (Nat.le_refl _) _
        have hg1 : W1.heap[wr.heap.size]? = some (Obj.cells #[.string s, .slice Af nf cf] 108) := by rw [hW1]; exact heap_alloc_new wr _
        have hl1 : wr.heap.size < W1.heap.size := (Array.getElem?_eq_some_iff.1 hg1).1
        have hrows1 : ∀ W, Below W1.heap.size W1 W → RowsP W (· < W.heap.size) Af nf x.rows := fun W hW => (hrows.keep (w' := W) (fun b o hb => (hW.cell (p := ⟨b, o, none⟩) (Nat.lt_of_lt_of_le hb (Nat.le_trans HW.out.size hb1.size))).trans (hb1.cell (p := ⟨b, o, none⟩) (Nat.lt_of_lt_of_le hb HW.out.size)))).more (fun q hq => Nat.lt_of_lt_of_le hq (Nat.le_trans HW.out.size (Nat.le_trans hb1.size hW.size)))
        obtain ⟨T, hTd⟩ : ∃ T, T = srtE (keysT x.rows) := ⟨_, rfl⟩
        rw [← hTd] at hT
        have HKe : Hid (∀ W, Below W1.heap.size W1 W → Calls Tryz.prog 70 #[.slice Af nf cf] W (TrP W T)) := Lib.hid (fun W hW => by rw [hTd]; exact keysOf_any x.rows Af nf cf W (hrows1 W hW) hnf)
        have HK := Lib.hid (fun (W : World) (hW : Below W1.heap.size W1 W) => (⟨(hW.cell (p := ⟨wr.heap.size, 0, none⟩) hl1).trans (by rw [cell_of_row _ _ _ _ _ _ hg1]; rfl), (hW.cell (p := ⟨wr.heap.size, 1, none⟩) hl1).trans (by rw [cell_of_row _ _ _ _ _ _ hg1]; rfl)⟩ : W.cell? ⟨wr.heap.size, 0, none⟩ = some (.string s) ∧ W.cell? ⟨wr.heap.size, 1, none⟩ = some (.slice Af nf cf)))
        have HE1 := Lib.hid (HE.out.below hb1)
        have HW1' := Lib.hid (HW.out.trans (hb1.mono HW.out.size))
        have hq0 : Below W1.heap.size W1 W1.drew := (Below.refl _ _).drew
        have Hlt := Lib.hid hlt
        have HT := Lib.hid hT
        have hk1 : k + 1 ≤ 1099511627776 := by omega
        have hwz : w.heap.size ≤ W1.heap.size := HW1'.out.size
        clear hlt hx hkl htk hs hb1 hg1 hl1 hrows hrows1 hTd hT hnf hncf hcm
        go_upto_region 5 with (fail)
        rw [← hW1]
        clear hW1
        go_region_held3 (fun W => W.cell? ⟨wr.heap.size, 0, none⟩ = some (.string s) ∧ W.cell? ⟨wr.heap.size, 1, none⟩ = some (.slice Af nf cf))
          (first | exact HK.out _ hq0 | exact HK.out _ hq2 | exact HK.out _ (hq2.alloc hq2.size _) | exact hS4)
          (first
          | (go_at_call 70; (with_reducible refine (HKe.out _ hq0).mono ?_); rintro e w2 ⟨A2, c2, rfl, hh2, hn2, hc2m, hb2⟩; have hq2 := hq0.trans (hb2.mono hq0.size); have hwz2 : w.heap.size ≤ w2.heap.size := Nat.le_trans hwz hq2.size; have HE2 := Lib.hid (HE1.out.below hq2))
          | (refine step_append_row rfl (.tmp 13) (.tmp 20) _ _ rfl elem_edge rfl rfl (HE2.out.own.alloc _) (src_edge _ s A2 T.len c2 _ rfl) hk1 (by simp; omega) ?_; intro A4 c4 w4 ho4 hg4 hat4; have hal : Below w2.heap.size w2 (w2.alloc (Obj.cells #[Value.string s, Value.slice A2 T.len c2] 56)) := (Below.refl _ _).alloc (Nat.le_refl _) _; have hox : ∀ q, (Value.slice A3 k c3).ownBlock = some q → q < wr.heap.size := (fun q hq => (HE.out.own.lt q hq).2); have hbl4 : ∀ q, q < w2.heap.size → some q ≠ (Value.slice A3 k c3).ownBlock → w4.heap[q]? = w2.heap[q]? := (fun q hq hn => (hg4.block q (Nat.lt_of_lt_of_le hq hal.size) hn).trans (hal.block q hq)); have hgw : wr.heap.size < w2.heap.size := World.block_lt_of_cell? w2 ⟨wr.heap.size, 0, none⟩ (HK.out _ hq2).1; have hS4 : w4.cell? ⟨wr.heap.size, 0, none⟩ = some (.string s) ∧ w4.cell? ⟨wr.heap.size, 1, none⟩ = some (.slice Af nf cf) := ⟨(World.cell?_of_block (hbl4 _ hgw (fun e => Nat.lt_irrefl _ (hox wr.heap.size e.symm)))).trans (HK.out _ hq2).1, (World.cell?_of_block (hbl4 _ hgw (fun e => Nat.lt_irrefl _ (hox wr.heap.size e.symm)))).trans (HK.out _ hq2).2⟩))
        all_goals
          have hHa := HE2.out.below hal
          have hrow : RowP (w2.alloc (Obj.cells #[Value.string s, Value.slice A2 T.len c2] 56)) (fun b => w.heap.size ≤ b ∧ b < (w2.alloc (Obj.cells #[Value.string s, Value.slice A2 T.len c2] 56)).heap.size ∧ some b ≠ (Value.slice A3 k c3).ownBlock) [.string s, .slice A2 T.len c2] (.cons s T .nil) := by
            refine RowP.one ((hh2.keep (w' := w2.alloc (Obj.cells #[Value.string s, Value.slice A2 T.len c2] 56)) fun b o hb => World.cell?_alloc_lt _ _ _ hb.2).more fun b hb => ⟨?_, Nat.lt_of_lt_of_le hb.2 hal.size, fun e => ?_⟩) hn2 hc2m
            · have := hb.1; have := hq0.size; omega
            · have := hox _ e.symm; have := hb.1; have := hq0.size; have := HW.out.size; have h9 := (HK.out W1 (Below.refl _ _)).1; have := World.block_lt_of_cell? W1 ⟨wr.heap.size, 0, none⟩ h9; simp only at *; omega
          have hP := hHa.push hrow ho4 hg4 (fun a ha => (hat4 a ha).imp (fun e => Nat.le_of_eq e.symm) id)
          rw [← HT.out] at hP
          have HP := Lib.hid hP
          have HW4 : Hid (Below w.heap.size w w4) := Lib.hid ((HW1'.out.trans ((hq2.trans (hal.mono hq2.size)).mono HW1'.out.size)).grown hg4 (Nat.le_trans hwz2 hal.size) (fun q hq => (HE2.out.own.lt q hq).1))
          clear ho4 hg4 hat4 hHa hrow hP hS4 hbl4 hal hq0 hq2 hh2 hb2
          go_wp2_with fail
          go_roundw
          case rel => exact ⟨k + 1, A4, c4, _, Hlt.out, by go_num, rfl, HP, HW4⟩
          case measure => have := Hlt.out; simp [intOf]; omega
      · obtain rfl : k = m := by omega
        have hE := HE.out
        rw [List.take_of_length_le (by rw [← Hl.out]; exact Nat.le_refl _)] at hE
        have hI := inOrd_E _ A3 k c3 w.heap.size vs wr hE HW.out.size (by omega)
        have HI := Lib.hid hI
        clear hlt hE HE hI
        go_wp2_with fail
        (with_reducible refine HI.out.mono ?_)
        rintro e w5 ⟨vs5, rfl, hE5, hb5⟩
        have HB5 := Lib.hid (HW.out.trans hb5)
        have HE5 := Lib.hid hE5
        clear hE5 hb5
        go_wp2_with fail
        go_ret
        have hl5 := HE5.out.len
        have hcap := HE5.out.cap
        have hh := HE5.out.holdsP (Nat.le_refl _)
        rw [hl5] at hh hcap
        exact ⟨A3, c3, by rw [← hl5]; rfl, hh, hcap.1, hcap.2, HB5.out⟩
end Go.Proofs.YtapgaglkkgbgkaaGreatDoor.In
namespace Go.Proofs.YtapgaglkkgbgkaaGreatDoor.In
open Go.RowKit Go.Proofs.YtapgaglkkgbgkaaGreatDoor.Jd Go.Proofs.YtapgaglkkgbgkaaGreatDoor.Li Go.Proofs.YtapgaglkkgbgkaaGreatDoor.Cl Go.Proofs.YtapgaglkkgbgkaaGreatDoor.Cv
set_option maxRecDepth 100000

theorem vB_len {s : Bs} (h : In.vB s = true) : s.length ≤ 80 := by
  unfold In.vB at h
  simp only [Bool.and_eq_true, decide_eq_true_eq] at h
  exact h.1.2
theorem sB_len {s : Bs} (h : sB s = true) : s.length ≤ 80 := by
  unfold sB at h
  simp only [Bool.and_eq_true] at h
  exact vB_len h.1.2
theorem kB_len {s : Bs} (h : In.kB s = true) : s.length ≤ 80 := by
  unfold In.kB at h
  simp only [Bool.and_eq_true] at h
  exact vB_len h.1.1.2
def SmR (r : Ro) : Prop := r.name.length ≤ 80 ∧ r.val.length ≤ 80
theorem sm_no : SmR no := ⟨Nat.zero_le _, Nat.zero_le _⟩
theorem row_small (x : Ln) : SmR (rowI x) := by
  unfold rowI
  split
  · exact sm_no
  · split
    · exact ⟨Nat.zero_le _, Nat.zero_le _⟩
    · split
      · exact ⟨Nat.zero_le _, Nat.zero_le _⟩
      · split
        · unfold headR
          split
          · rename_i h
            exact ⟨sB_len h.2, Nat.zero_le _⟩
          · exact sm_no
        · unfold keyR
          split
          · rename_i h
            exact ⟨kB_len h.2.1, vB_len h.2.2⟩
          · exact sm_no
def tot : List Pt → Nat
  | [] => 0
  | p :: ps => p.rows.length + tot ps
theorem tot_app (a b : List Pt) : tot (a ++ b) = tot a + tot b := by
  induction a with
  | nil => simp [tot]
  | cons x r ih => simp only [List.cons_append, tot, ih]; omega
theorem tot_mem : ∀ {ps : List Pt} {p : Pt}, p ∈ ps → p.rows.length ≤ tot ps
  | x :: ps, p, h => by
    rcases List.mem_cons.1 h with rfl | h
    · simp only [tot]; omega
    · have := tot_mem h; simp only [tot]; omega
structure InvP (ps : List Pt) (N : Nat) : Prop where
  ne : ps ≠ []
  few : ps.length + tot ps ≤ N
  sm : ∀ p ∈ ps, p.name.length ≤ 80 ∧ ∀ r ∈ p.rows, SmR r
theorem InvP.start : InvP [⟨[], []⟩] 1 := ⟨by simp, by simp [tot], fun p hp => by
  obtain rfl : p = ⟨[], []⟩ := by simpa using hp
  exact ⟨Nat.zero_le _, fun r hr => by cases hr⟩⟩
theorem InvP.add {ps : List Pt} {N : Nat} {r : Ro} (h : InvP ps N) (hr : SmR r) : InvP (addI ps r) (N + 2) := by
  by_cases h2 : r.kind = 2
  · rw [addI_new h2]
    refine ⟨by simp, ?_, fun p hp => ?_⟩
    · rw [tot_app]
      have := h.few
      simp [tot]
      omega
    · rcases List.mem_append.1 hp with hp | hp
      · exact h.sm p hp
      · obtain rfl : p = ⟨r.name, [] ++ [r]⟩ := by simpa using hp
        exact ⟨hr.1, fun x hx => by
          obtain rfl : x = r := by simpa using hx
          exact hr⟩
  · rcases List.eq_nil_or_concat ps with e | ⟨i, ⟨nm, rows⟩, e⟩
    · exact absurd e h.ne
    · rw [List.concat_eq_append] at e
      subst e
      rw [addI_old h2]
      refine ⟨by simp, ?_, fun p hp => ?_⟩
      · have := h.few
        rw [tot_app] at this ⊢
        simp [tot] at this ⊢
        omega
      · rcases List.mem_append.1 hp with hp | hp
        · exact h.sm p (List.mem_append_left _ hp)
        · obtain rfl : p = ⟨nm, rows ++ [r]⟩ := by simpa using hp
          have h3 := h.sm ⟨nm, rows⟩ (by simp)
          refine ⟨h3.1, fun x hx => ?_⟩
          rcases List.mem_append.1 hx with hx | hx
          · exact h3.2 x hx
          · obtain rfl : x = r := by simpa using hx
            exact hr
theorem InvP.parts : ∀ (ls : List Ln) {ps : List Pt} {N i : Nat}, InvP ps N → (partsI ps i ls).2.2 = 0 → InvP (partsI ps i ls).1 (N + 2 * ls.length)
  | [], ps, N, i, h, _ => by
    rw [partsI]
    exact ⟨h.ne, by simpa using h.few, h.sm⟩
  | x :: ls, ps, N, i, h, he => by
    rw [partsI] at he ⊢
    by_cases h0 : faultI ps (rowI x) ≠ 0
    · rw [if_pos h0] at he
      exact absurd he h0
    · rw [if_neg h0] at he ⊢
      have := InvP.parts ls (h.add (row_small x)) he
      exact ⟨this.ne, by have := this.few; simp only [List.length_cons]; omega, this.sm⟩
theorem keys_ok : ∀ rs : List Ro, (∀ r ∈ rs, SmR r) → Tr.Nm (keysT rs) ∧ (keysT rs).size ≤ 2 * rs.length
  | [], _ => ⟨trivial, Nat.le_refl _⟩
  | r :: rs, h => by
    obtain ⟨h1, h2⟩ := keys_ok rs (fun x hx => h x (List.mem_cons_of_mem _ hx))
    have h3 := h r (by simp)
    unfold keysT
    split
    · refine ⟨⟨by rw [mk_size]; have := h3.1; omega, ⟨by rw [mk_size]; have := h3.2; omega, trivial, trivial⟩, h1⟩, ?_⟩
      simp only [Tr.size, List.length_cons]
      omega
    · exact ⟨h1, by simp only [List.length_cons]; omega⟩
theorem secs_ok : ∀ ps : List Pt, (∀ p ∈ ps, p.name.length ≤ 80 ∧ ∀ r ∈ p.rows, SmR r) → Tr.Nm (secsT ps) ∧ (secsT ps).size ≤ ps.length + 2 * tot ps
  | [], _ => ⟨trivial, Nat.le_refl _⟩
  | p :: ps, h => by
    obtain ⟨h1, h2⟩ := secs_ok ps (fun x hx => h x (List.mem_cons_of_mem _ hx))
    have h3 := h p (by simp)
    obtain ⟨h4, h5⟩ := keys_ok p.rows h3.2
    unfold secsT
    refine ⟨⟨by rw [mk_size]; have := h3.1; omega, srtE_nm _ h4, h1⟩, ?_⟩
    simp only [Tr.size, List.length_cons, tot, srtE_size]
    omega
theorem treeI_ok {ps : List Pt} {N : Nat} (h : InvP ps N) : Tr.Nm (treeI ps) ∧ (treeI ps).size ≤ 3 * N := by
  cases ps with
  | nil => exact absurd rfl h.ne
  | cons p pt =>
    obtain ⟨h1, h2⟩ := secs_ok pt (fun x hx => h.sm x (List.mem_cons_of_mem _ hx))
    have := h.few
    simp only [List.length_cons, tot] at this
    refine ⟨srtE_nm _ h1, ?_⟩
    show (srtE (secsT pt)).size ≤ _
    rw [srtE_size]
    omega
end Go.Proofs.YtapgaglkkgbgkaaGreatDoor.In
