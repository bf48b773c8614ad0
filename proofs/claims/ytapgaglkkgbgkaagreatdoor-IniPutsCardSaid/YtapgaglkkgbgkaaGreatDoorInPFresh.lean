import Derived.Test.YtapgaglkkgbgkaaGreatDoorMwInPPut
import Derived.Test.YtapgaglkkgbgkaaGreatDoorInRem
import Derived.Outline
import Derived.Test.YtapgaglkkgbgkaaGreatDoorMwInRRows
import Derived.Test.YtapgaglkkgbgkaaGreatDoorInRefP
import Derived.Deep.RegionHeld3
/- The reference's lines of ini, put among others: added. Conditions: few lines. -/
namespace Go.Proofs.YtapgaglkkgbgkaaGreatDoor.In
open Go.RowKit Go.Proofs.YtapgaglkkgbgkaaGreatDoor.Jd Go.Proofs.YtapgaglkkgbgkaaGreatDoor.Li Go.Proofs.YtapgaglkkgbgkaaGreatDoor.Cl Go.Proofs.YtapgaglkkgbgkaaGreatDoor.Cv Go.Proofs.YtapgaglkkgbgkaaGreatDoor.Pt
set_option maxRecDepth 100000

theorem src_none {w : World} {B n k d : Nat} {A : Option Addr} {ls : List Ln} (h : SeesL w B A n ls) (hk : k ≤ n) : Src Tryz.prog 2 65 (.slice (Option.map (fun x : Addr => x.add (k * 2)) A) (n - k) d) (n - k) (lcells (ls.drop k)) w := by
  have hl := h.len
  cases A with
  | none =>
    have : ls = [] := by
      cases ls with
      | nil => rfl
      | cons x r => obtain ⟨b, o, e, _⟩ := h.cell 0 (Li.encs x.1) rfl; cases e
    subst this
    rw [show n - k = 0 by have : n = 0 := hl; omega]
    rw [List.drop_nil]
    exact Src.ofNil w Tryz.underlying65 d
  | some a =>
    by_cases h0 : 0 < n
    · obtain ⟨b, o, e, _⟩ := h.addr h0
      injection e with e
      subst e
      rw [Option.map_some, Addr.add_lit]
      exact (h.drop hk).src
    · have hd : ls.drop k = [] := List.drop_of_length_le (by omega)
      rw [hd, show n - k = 0 by omega]
      exact Src.ofSlice w Tryz.underlying65 _ 0 d [] rfl (fun j u hu => by simp at hu) (fun u hu => by cases hu)
theorem src_zero {w : World} {A : Option Addr} {d : Nat} : Src Tryz.prog 2 65 (.slice A 0 d) 0 (lcells []) w := by
  cases A with
  | none => exact Src.ofNil w Tryz.underlying65 d
  | some a => exact Src.ofSlice w Tryz.underlying65 a 0 d [] rfl (fun j u hu => by simp at hu) (fun u hu => by cases hu)
/-- Lines of texts. -/
def linesT (E : Bs) (ts : List Bs) : List Ln := ts.map fun t => (t, E)
theorem linesT_len (E : Bs) (ts : List Bs) : (linesT E ts).length = ts.length := by rw [linesT, List.length_map]
theorem linesT_more {E : Bs} {ts : List Bs} {k : Nat} {y : Bs} (h : ts[k]? = some y) : linesT E (ts.take (k + 1)) = linesT E (ts.take k) ++ [(y, E)] := by
  rw [List.take_add_one, h, linesT, linesT, List.map_append]
  rfl

set_option maxHeartbeats 4000000 in
theorem radded_any (ls : List Ln) (ts : List Bs) (E : ByteArray) (A At : Option Addr) (n c m ct p : Nat) (w : World) (h : SeesL w w.heap.size A n ls) (hc : n ≤ c) (hn : n ≤ 50000000) (hp : p ≤ n) (ht : SeesV w w.heap.size At m (ts.map Li.encs)) (hm : m ≤ 100000) :
    Calls Tryz.prog 43 #[.slice A n c, .int .i64 p, .slice At m ct, .string E] w (LsP w (ls.take p ++ linesT E.data.toList ts ++ ls.drop p)) := by
  obtain ⟨R, hR⟩ : ∃ R, R = ls.take p ++ linesT E.data.toList ts ++ ls.drop p := ⟨_, rfl⟩
  rw [← hR]
  have hpI : (p : Int) ≤ (n : Int) := by omega
  have hp0 : (0 : Int) ≤ (p : Int) := by omega
  have hpc : (p : Int) ≤ (c : Int) := by omega
  have hnc : (n : Int) ≤ (c : Int) := by omega
  have HS1 := Lib.hid ((h.take hp).src (c := c))
  have HL := Lib.hid h
  have HT := Lib.hid ht
  have hl := h.len
  have hml := ht.len
  rw [List.length_map] at hml
  have Hml := Lib.hid hml
  have hb0 : 0 + p ≤ 1099511627776 := by omega
  have HN := Lib.hid (show p ≤ 50000000 ∧ n ≤ 50000000 ∧ m ≤ 100000 by omega)
  have Hlen : Hid (R.length = p + m + (n - p)) := Lib.hid (by
    rw [hR, List.length_append, List.length_append, List.length_take, List.length_drop, linesT_len]; omega)
  have Htl : Hid ((ls.take p).length = p) := Lib.hid (by rw [List.length_take]; omega)
  have HR := Lib.hid hR
  clear h ht hl hml hR
  go_enter Tryz.func43, Tryz.ntmps43
  go_wp2_with (at_builtin; refine wpList_append_row rfl (.tmp 11) (.tmp 14) _ _ rfl elem_line rfl rfl (World.ownsRow_nil w w.heap.size 85 2) HS1.out hb0 (Nat.le_refl _) ?_; intro A7 c7 w7 ho7 hg7 hat7)
  rw [List.nil_append] at ho7
  simp only [Nat.zero_add] at ho7 ⊢
  have HW7 : Hid (Below w.heap.size w w7) := Lib.hid ((Below.refl _ _).grown hg7 (Nat.le_refl _) (fun q hq => by cases hq))
  have HO7 : Hid (OwnL w7 w.heap.size A7 (p + 0) c7 (ls.take p ++ linesT E.data.toList (ts.take 0))) := Lib.hid (by rw [List.take_zero, Nat.add_zero]; show OwnL w7 w.heap.size A7 p c7 (ls.take p ++ []); rw [List.append_nil]; exact ho7)
  clear ho7 hg7 hat7 HS1
  go_wp2_with fail
  go_loopw [9, 10] (fun ov iv wr => ∃ (k c' : Nat) (A' : Option Addr), k ≤ m ∧ ov = .slice A' (p + k) c' ∧ iv = .int .i64 k ∧ Hid (OwnL wr w.heap.size A' (p + k) c' (ls.take p ++ linesT E.data.toList (ts.take k))) ∧ Hid (Below w.heap.size w wr)) (fun _ i _ => m - (intOf i).toNat)
  case atStart => exact ⟨0, c7, A7, Nat.zero_le _, rfl, rfl, HO7, HW7⟩
  case round =>
    obtain ⟨k, c', A', hk, rfl, rfl, HO, HW⟩ := hrel
    by_cases hlt : k < m
    · have hkm : (k : Int) < (m : Int) := by omega
      have hk0 : (0 : Int) ≤ (k : Int) := by omega
      obtain ⟨b, o, y, rfl, hy, hbl, hcell⟩ := seesv_at (HT.out.below HW.out) hlt
      obtain ⟨y1, hy1⟩ : ∃ y1 : ByteArray, y1 = ⟨y.toArray⟩ := ⟨_, rfl⟩
      rw [← hy1] at hcell
      have hb1 : p + k + 1 ≤ 1099511627776 := by have := HN.out; omega
      have hwz := HW.out.size
      have HE : Hid (#[Value.string y1, Value.string E] = #[Li.encs y, Li.encs E.data.toList]) := Lib.hid (by rw [hy1]; rfl)
      have HM := Lib.hid (linesT_more (E := E.data.toList) hy)
      have Hlt := Lib.hid hlt
      clear hy hbl hy1 hlt
      go_wp2_with (at_builtin; refine wpList_append_row rfl (.tmp 22) (.tmp 29) _ _ rfl elem_line rfl rfl (HO.out.alloc _) (src_line wr y E.data.toList _ HE.out _ rfl) hb1 (by simp; omega) ?_; intro A8 c8 w8 ho8 hg8 hat8)
      have HO8 : Hid (OwnL w8 w.heap.size A8 (p + (k + 1)) c8 (ls.take p ++ linesT E.data.toList (ts.take (k + 1)))) := Lib.hid (by
        rw [HM.out, ← List.append_assoc]
        unfold OwnL
        rw [lcells_append]
        exact ho8)
      have HW8 : Hid (Below w.heap.size w w8) := Lib.hid ((HW.out.alloc hwz _).grown hg8 (by simp; omega) (fun q hq => (World.ownsRow.lt HO.out q hq).1))
      clear ho8 hg8 hat8
      go_wp2_with fail
      go_roundw
      case rel => exact ⟨k + 1, c8, A8, Hlt.out, by first | rfl | (rw [Nat.add_assoc]), by go_num, HO8, HW8⟩
      case measure => have := Hlt.out; simp [intOf]; omega
    · obtain rfl : k = m := by omega
      have hkm : ¬ (k : Int) < (k : Int) := by omega
      have hO := HO.out
      rw [show ts.take k = ts from List.take_of_length_le (by rw [← Hml.out]; exact Nat.le_refl _)] at hO
      have HO2 := Lib.hid hO
      have hb1 : p + k + (n - p) ≤ 1099511627776 := by have := HN.out; omega
      have hwz := HW.out.size
      have hSL := HL.out.below HW.out
      have hsz : SeesL wr wr.heap.size A n ls := hSL.more hwz
      have HSd := Lib.hid (fun d => src_none (d := d) hsz hp)
      have Hfin : Hid (∀ (A9 : Option Addr) (c9 : Nat) (w9 : World), w9.ownsRow w.heap.size 85 2 (.slice A9 (p + k + (n - p)) c9) (p + k + (n - p)) (lcells (ls.take p ++ linesT E.data.toList ts) ++ lcells (ls.drop p)) → Below w.heap.size w w9 → LsP w R (.returned (.slice A9 (p + k + (n - p)) c9)) w9) := Lib.hid (fun A9 c9 w9 ho hb => by
        unfold LsP
        rw [Hlen.out]
        refine ⟨A9, c9, rfl, ?_, hb⟩
        rw [HR.out]
        unfold OwnL
        rw [lcells_append]
        exact ho)
      clear hlt hSL hsz hO
      by_cases hpe : p = c
      · have hpn : n - p = 0 := by omega
        subst hpe
        have hd : ls.drop p = [] := List.drop_of_length_le (by have := HL.out.len; omega)
        have hb2 : p + k + 0 ≤ 1099511627776 := by omega
        have Hf0 : Hid (∀ (A9 : Option Addr) (c9 : Nat) (w9 : World), w9.ownsRow w.heap.size 85 2 (.slice A9 (p + k + 0) c9) (p + k + 0) (lcells (ls.take p ++ linesT E.data.toList ts) ++ lcells []) → Below w.heap.size w w9 → LsP w R (.returned (.slice A9 (p + k + 0) c9)) w9) := Lib.hid (by
          have := Hfin.out
          rw [hpn, hd] at this
          exact this)
        obtain rfl : n = p := by omega
        clear Hfin hpn hd HSd
        go_wp2_with (at_builtin; refine wpList_append_row rfl (.tmp 31) (.tmp 34) _ _ rfl elem_line rfl rfl HO2.out src_zero hb2 hwz ?_; intro A8 c8 w8 ho8 hg8 hat8)
        have HF := Lib.hid (Hf0.out A8 c8 w8 ho8 (HW.out.grown hg8 hwz (fun q hq => (World.ownsRow.lt HO2.out q hq).1)))
        clear ho8 hg8 hat8
        refine bodyPost_ret (v := .slice A8 (n + k + 0) c8) (by simp [results, Tryz.results43, go_sem]) rfl ?_
        exact HF.out
      · have hpc2 : ¬ p = c := hpe
        go_wp2_with (at_builtin; refine wpList_append_row rfl (.tmp 31) (.tmp 34) _ _ rfl elem_line rfl rfl HO2.out (HSd.out _) hb1 hwz ?_; intro A8 c8 w8 ho8 hg8 hat8)
        have HF := Lib.hid (Hfin.out A8 c8 w8 ho8 (HW.out.grown hg8 hwz (fun q hq => (World.ownsRow.lt HO2.out q hq).1)))
        clear ho8 hg8 hat8
        refine bodyPost_ret (v := .slice A8 (p + k + (n - p)) c8) (by simp [results, Tryz.results43, go_sem]) rfl ?_
        exact HF.out
end Go.Proofs.YtapgaglkkgbgkaaGreatDoor.In
/- The reference's new keys of ini: fresh. Conditions: keys that fit; few edges. -/
namespace Go.Proofs.YtapgaglkkgbgkaaGreatDoor.In
open Go.RowKit Go.Proofs.YtapgaglkkgbgkaaGreatDoor.Jd Go.Proofs.YtapgaglkkgbgkaaGreatDoor.Li Go.Proofs.YtapgaglkkgbgkaaGreatDoor.Cl Go.Proofs.YtapgaglkkgbgkaaGreatDoor.Cv Go.Proofs.YtapgaglkkgbgkaaGreatDoor.Pt
set_option maxRecDepth 100000

theorem src_st_at (V : World) (x : ByteArray) (g : Nat) (hV : V.heap[g]? = some (Obj.cells #[Value.string x] 9)) : Src Tryz.prog 1 28 (.slice (some ⟨g, 0, none⟩) 1 1) 1 [.string x] V := by
  refine Src.ofSlice _ Tryz.underlying28 ⟨g, 0, none⟩ 1 1 [.string x] rfl (fun j u hu => ?_) (by intro u hu; simp at hu; subst hu; rfl)
  rw [Addr.add_lit, cell_of_row _ _ _ _ _ _ hV, ← hu, Nat.zero_add]
  simp
theorem OwnSt.below {w w' : World} {base n c : Nat} {A : Option Addr} {rs : List Bs} (h : OwnSt w base A n c rs) (hb : Below w.heap.size w w') : OwnSt w' base A n c rs :=
  World.ownsRow.kept (row := none) h ⟨hb.os, hb.tape, hb.output, hb.size, fun i hi _ => hb.block i hi⟩ (by cases hv : (Value.slice A n c).ownBlock <;> simp)
theorem eds_drop : ∀ (t : Tr) (i : Nat) {s : ByteArray} {k r : Tr}, t.dropT i = .cons s k r → (eds t)[i]? = some (s, k)
  | .nil, 0, _, _, _, h => by cases h
  | .nil, _ + 1, _, _, _, h => by cases h
  | .cons _ _ _, 0, _, _, _, h => by rw [dropT_zero] at h; injection h with h1 h2 _; subst h1; subst h2; rfl
  | .cons _ _ r', i + 1, _, _, _, h => by
    have := eds_drop r' i (by simpa [Tr.dropT] using h)
    simpa [eds] using this
/-- A key's line's text. -/
def txtK (e : ByteArray × Tr) : Bs := e.1.data.toList ++ [61] ++ oneN e.2
def frF (old : Tr) (l : List (ByteArray × Tr)) : List Bs := (l.filter fun e => !(old.atIs e.1)).map txtK
theorem fr_more {old : Tr} {l : List (ByteArray × Tr)} {k : Nat} {e : ByteArray × Tr} (h : l[k]? = some e) : frF old (l.take (k + 1)) = frF old (l.take k) ++ (if old.atIs e.1 = true then [] else [txtK e]) := by
  rw [List.take_add_one, h, frF, frF, Option.toList_some, List.filter_append, List.map_append]
  by_cases hi : old.atIs e.1 = true
  · rw [if_pos hi]; simp [hi]
  · rw [if_neg hi]; simp [hi]

set_option maxHeartbeats 8000000 in
theorem rfresh_any (x old : Tr) (A Ao : Option Addr) (n c no co : Nat) (w : World) (h : Holds w w.heap.size A n x) (hx : x.size ≤ 1000) (hf : allT fkB x = true) (hn8 : N80 x) (ho : Holds w w.heap.size Ao no old) (hz : old.size ≤ 1000) :
    Calls Tryz.prog 44 #[.slice A n c, .slice Ao no co] w (RemP w (frF old (eds x))) := by
  obtain ⟨R, hR⟩ : ∃ R, R = frF old (eds x) := ⟨_, rfl⟩
  rw [← hR]
  have HR := Lib.hid hR
  have hl := h.len
  have hls := x.len_size
  have HL := Lib.hid h
  have HO := Lib.hid ho
  have Hn : Hid (n ≤ 1000 ∧ (eds x).length = n) := Lib.hid ⟨by omega, by rw [eds_len]; exact hl.symm⟩
  clear h ho hl hls hR
  go_enter Tryz.func44, Tryz.ntmps44
  go_wp2_with fail
  go_loopw [5, 6] (fun ov iv wr => ∃ (k m c' : Nat) (A' : Option Addr) (rs : List Bs), k ≤ n ∧ ov = .slice A' m c' ∧ iv = .int .i64 k ∧ Hid (OwnSt wr w.heap.size A' m c' rs) ∧ Hid (m ≤ k) ∧ Hid (Below w.heap.size w wr) ∧ Hid (rs = frF old ((eds x).take k))) (fun _ i _ => n - (intOf i).toNat)
  case atStart => exact ⟨0, 0, 0, none, [], Nat.zero_le _, rfl, rfl, Lib.hid (World.ownsRow_nil _ _ _ _), Lib.hid (Nat.le_refl _), Lib.hid (Below.refl _ _), Lib.hid rfl⟩
  case round =>
    obtain ⟨k, m, c', A', rs, hk, rfl, rfl, HOw, Hm, HW, HF⟩ := hrel
    have hn1000 := Hn.out.1
    by_cases hlt : k < n
    · have hkn : (k : Int) < (n : Int) := by omega
      have hk0 : (0 : Int) ≤ (k : Int) := by omega
      have hh := HL.out
      obtain ⟨b, o, s, kt, r, A1, n1, c1, rfl, hb, hs, hc, hn1, hc1, hk1, hr1, hd1, hd2⟩ := hh.split k hlt
      have he := eds_drop x k hd1
      have hfk := allT_mem hf (s, kt) (List.mem_of_getElem? he)
      obtain ⟨_, v, rfl, _, hone⟩ := fk_form hfk
      have hsz8 := n80_drop x k hn8
      rw [hd1] at hsz8
      obtain ⟨hs8, ⟨hv8, _⟩, _⟩ := hsz8
      obtain ⟨b2, o2, rfl, hb2, hv, _, m1, hm1, hm0⟩ := hk1
      have hm0 : m1 = 0 := hm0
      obtain rfl : n1 = 1 := by omega
      have hmore := fr_more (old := old) he
      rw [← HF.out] at hmore
      have HM := Lib.hid hmore
      have hoo := HoldsP.of ((HO.out.below HW.out).more HW.out.size)
      have HKi := Lib.hid (kidB_any old Ao no co s wr hoo (fun _ hb => hb) (by omega))
      have HC := Lib.hid (fun (W : World) (hW : Below w.heap.size w W) => (⟨(hW.cell (p := ⟨b, o + k * 2, none⟩) hb).trans hs, (hW.cell (p := ⟨b, o + k * 2 + 1, none⟩) hb).trans hc, (hW.cell (p := ⟨b2, o2, none⟩) hb2).trans hv⟩ : W.cell? ⟨b, o + k * 2, none⟩ = some (.string s) ∧ W.cell? ⟨b, o + k * 2 + 1, none⟩ = some (.slice (some ⟨b2, o2, none⟩) 1 c1) ∧ W.cell? ⟨b2, o2, none⟩ = some (.string v)))
      have Hlt := Lib.hid hlt
      have Hs8 := Lib.hid (And.intro hs8 hv8)
      have htx : txtK (s, .cons v .nil .nil) = s.data.toList ++ [61] ++ v.data.toList := rfl
      have Htx := Lib.hid htx
      clear hh hb hs hc hn1 hc1 hm1 hm0 hr1 hd1 hd2 he hfk hone hs8 hv8 hb2 hv hmore hoo hlt htx HF
      obtain ⟨e0, e1, e2⟩ := HC.out wr HW.out
      go_wp2_with fail
      (with_reducible refine HKi.out.mono ?_)
      rintro e w2 ⟨A9, n9, c9, rfl, _, _, _, hb9⟩
      have HB9 := Lib.hid hb9
      have HO2 := Lib.hid (HOw.out.below hb9)
      have HW2 := Lib.hid (HW.out.trans (hb9.mono HW.out.size))
      clear hb9 e0 e1 e2
      cases hi : old.atIs s with
      | true =>
        have HF2 : Hid (rs = frF old ((eds x).take (k + 1))) := Lib.hid (by rw [HM.out, if_pos hi, List.append_nil])
        clear hi
        go_wp2_with fail
        go_roundw
        case rel => exact ⟨k + 1, m, c', A', rs, Hlt.out, rfl, by go_num, HO2, Lib.hid (Nat.le_succ_of_le Hm.out), HW2, HF2⟩
        case measure => have := Hlt.out; simp [intOf]; omega
      | false =>
        have hs8 : s.size ≤ 80 := Hs8.out.1
        have hv8 : v.size ≤ 80 := Hs8.out.2
        have ha1 := fun W => run_string_add_sum (P := Tryz.prog) (w := W) s ⟨#[61]⟩ (by have : (ByteArray.mk #[61]).size = 1 := rfl; omega)
        obtain ⟨u1, hu1⟩ : ∃ y, y = s ++ (⟨#[61]⟩ : ByteArray) := ⟨_, rfl⟩
        have hu1z : u1.size = s.size + 1 := by rw [hu1, ByteArray.size_append]; rfl
        rw [← hu1] at ha1
        have ha2 := fun W => run_string_add_sum (P := Tryz.prog) (w := W) u1 v (by omega)
        obtain ⟨u2, hu2⟩ : ∃ y, y = u1 ++ v := ⟨_, rfl⟩
        rw [← hu2] at ha2
        have hu2l : u2.data.toList = txtK (s, .cons v .nil .nil) := by rw [hu2, hu1, Htx.out]; simp [ByteArray.data_append]
        have HF2 : Hid (rs ++ [u2.data.toList] = frF old ((eds x).take (k + 1))) := Lib.hid (by rw [HM.out, if_neg (by rw [hi]; decide), hu2l])
        have hn1' : m + 1 ≤ 1099511627776 := by have := Hm.out; have := Hn.out.1; have := Hlt.out; omega
        have hwz := HW2.out.size
        have hal : ∀ X : Obj, Below w2.heap.size w2 (w2.alloc X).drew := fun X => ((Below.refl _ _).alloc (Nat.le_refl _) X).drew
        have HAl := Lib.hid hal
        have HCd := Lib.hid (HC.out w2.drew (HW2.out.drew))
        clear hi hu1 hu1z hu2 hu2l hal hs8 hv8
        go_upto_region 7 with (fail)
        go_region_held3 (fun W => W.cell? ⟨b, o + k * 2, none⟩ = some (.string s) ∧ W.cell? ⟨b, o + k * 2 + 1, none⟩ = some (.slice (some ⟨b2, o2, none⟩) 1 c1) ∧ W.cell? ⟨b2, o2, none⟩ = some (.string v))
          (first | exact HCd.out | exact HC.out _ (HW2.out.trans ((HAl.out _).mono HW2.out.size)) | exact H7.out)
          (first
          | (refine step_append_row rfl (.tmp 27) (.tmp 43) _ _ rfl elem_st rfl rfl (HO2.out.below (HAl.out _)) (src_st_at ((w2.alloc (Obj.cells #[Value.string u2] 9)).drew) u2 w2.heap.size (heap_alloc_new w2 _)) hn1' (by simp; omega) ?_; intro A7 c7 w7 ho7 hg7 hat7; have hw7 := (HW2.out.trans ((HAl.out (Obj.cells #[Value.string u2] 9)).mono HW2.out.size)).grown hg7 (Nat.le_trans HW2.out.size (HAl.out _).size) (fun q hq => (World.ownsRow.lt HO2.out q hq).1); have H7 := Lib.hid (HC.out w7 hw7)))
        have HO7 : Hid (OwnSt w7 w.heap.size A7 (m + 1) c7 (rs ++ [u2.data.toList])) := Lib.hid (by unfold OwnSt; rw [List.map_append]; exact ho7)
        have HW7 := Lib.hid hw7
        clear ho7 hg7 hat7 hw7
        go_wp2_with fail
        go_roundw
        case rel => exact ⟨k + 1, m + 1, c7, A7, _, Hlt.out, rfl, by go_num, HO7, Lib.hid (Nat.succ_le_succ Hm.out), HW7, HF2⟩
        case measure => have := Hlt.out; simp [intOf]; omega
    · obtain rfl : k = n := by omega
      have hkn : ¬ (k : Int) < (k : Int) := by omega
      have HF2 : Hid (R = rs) := Lib.hid (by rw [HR.out, HF.out, List.take_of_length_le (by rw [Hn.out.2]; exact Nat.le_refl _)])
      go_wp2_with fail
      refine bodyPost_ret (v := .slice A' m c') (by simp [results, Tryz.results44, go_sem]) rfl ?_
      exact ⟨A', m, c', rfl, by rw [HF2.out]; exact HOw.out, HW.out⟩
end Go.Proofs.YtapgaglkkgbgkaaGreatDoor.In
