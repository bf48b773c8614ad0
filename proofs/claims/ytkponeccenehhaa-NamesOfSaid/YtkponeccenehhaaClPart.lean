/- A tree's edges parted by what is asked of their names; names.Of's closure; names.split. Conditions: fewer than 2^39 edges. -/
import Derived.Test.YtkponeccenehhaaWithW
import Derived.Test.YtkponeccenehhaaClCloneW
import Derived.Test.YtkponeccenehhaaNmFace
import Derived.Deep.RegionHeld3
namespace Go.Proofs.Ytkponeccenehhaa.Cl
open Go.RowKit Go.Proofs.Ytkponeccenehhaa.Nm
set_option maxRecDepth 100000

def part (f : List UInt8 → Bool) : Tr → Tr
  | .nil => .nil
  | .cons s k r => if f s.data.toList then .cons s k (part f r) else part f r
def app : Tr → Tr → Tr
  | .nil, u => u
  | .cons s k r, u => .cons s k (app r u)
theorem app_nil : ∀ t : Tr, app t .nil = t
  | .nil => rfl
  | .cons s k r => by rw [app, app_nil r]
theorem app_cons (s : ByteArray) (k u : Tr) : ∀ t : Tr, app (app t (.cons s k .nil)) u = app t (.cons s k u)
  | .nil => rfl
  | .cons _ _ r => by rw [app, app, app, app_cons s k u r]
theorem app_len (u : Tr) : ∀ t : Tr, (app t u).len = t.len + u.len
  | .nil => by simp [app, Tr.len]
  | .cons _ _ r => by rw [app, Tr.len, Tr.len, app_len u r]; omega
theorem part_yes {f : List UInt8 → Bool} {s : ByteArray} {k r : Tr} (h : f s.data.toList = true) : part f (.cons s k r) = .cons s k (part f r) := by rw [part, if_pos h]
theorem part_no {f : List UInt8 → Bool} {s : ByteArray} {k r : Tr} (h : f s.data.toList = false) : part f (.cons s k r) = part f r := by rw [part, if_neg (by simp [h])]
theorem rowT_app {w : World} {B : Nat} : ∀ {vs us : List Value} {t u : Tr}, RowT w B vs t → RowT w B us u → RowT w B (vs ++ us) (app t u)
  | [], _, .nil, _, _, h2 => h2
  | .string _ :: .slice _ _ _ :: _, _, .cons _ _ _, _, ⟨h1, h2, h3, h4, h5⟩, h6 => ⟨h1, h2, h3, h4, rowT_app h5 h6⟩
theorem rowT_one {w : World} {B n c : Nat} {s : ByteArray} {A : Option Addr} {k : Tr} (h : Holds w B A n k) (h1 : n ≤ c) (h2 : c ≤ maxLen) : RowT w B [.string s, .slice A n c] (.cons s k .nil) := ⟨rfl, h1, h2, h, trivial⟩

theorem of1_any (s : St) (hp : s.l.Pairwise (· < ·)) (A2 : Option Addr) (n2 c2 g B : Nat) (x : ByteArray) (A : Option Addr) (n c : Nat) (w : World) (h : SeesV w B A2 n2 (s.l.map encs)) (hB : B ≤ w.heap.size) (hn : n2 ≤ 1099511627776)
    (hg0 : w.cell? ⟨g, 0, none⟩ = some (.bool s.all)) (hg1 : w.cell? ⟨g, 1, none⟩ = some (.slice A2 n2 c2)) :
    Calls Try.prog 25 #[.agg #[.string x, .slice A n c], .pointer (some ⟨g, 0, none⟩)] w fun e w' => e = .returned (.bool (s.mem x.data.toList)) ∧ Below w.heap.size w w' := by
  have hgs := block_lt hg0
  simp only at hgs
  obtain ⟨W1, hW1⟩ : ∃ W, W = w.alloc (Obj.cells #[Value.string x, Value.slice A n c] 37) := ⟨_, rfl⟩
  have g0 : W1.heap[w.heap.size]? = some (Obj.cells #[Value.string x, Value.slice A n c] 37) := by rw [hW1, heap_alloc_new]
  have hb1 : Below w.heap.size w W1 := by rw [hW1]; exact (Below.refl _ _).alloc (Nat.le_refl _) _
  have HC := Lib.hid (has_any s hp A2 n2 c2 B x W1 (h.keep fun p hp => hb1.cell (Nat.lt_of_lt_of_le hp hB)) (Nat.le_trans hB hb1.size) hn)
  obtain ⟨q0, q1, _, _⟩ := box2 g0
  have hs0 := (hb1.cell (p := ⟨g, 0, none⟩) hgs).trans hg0
  have hs1 := (hb1.cell (p := ⟨g, 1, none⟩) hgs).trans hg1
  have HB1 := Lib.hid hb1
  obtain ⟨v, hv⟩ : ∃ v, v = s.mem x.data.toList := ⟨_, rfl⟩
  obtain ⟨y, hy⟩ : ∃ y, y = s.all := ⟨_, rfl⟩
  rw [← hv, ← hy] at HC
  rw [← hv]
  rw [← hy] at hs0 hg0
  clear hv hy h hb1 hp
  go_enter Try.func25, Try.ntmps25
  go_wp2_with fail
  rw [← hW1]
  go_wp2_with fail
  (with_reducible refine HC.out.mono ?_)
  rintro e w1 ⟨rfl, hb2⟩
  go_wp2_with fail
  go_ret
  exact ⟨rfl, HB1.out.trans (hb2.mono HB1.out.size)⟩

theorem row_below {w : World} {base N c : Nat} {A : Option Addr} {vs : List Value} (h : w.ownsRow base 37 2 (.slice A N c) N vs) {w' : World} (hb : Below w.heap.size w w') : w'.ownsRow base 37 2 (.slice A N c) N vs :=
  h.kept (row := none) ⟨hb.os, hb.tape, hb.output, hb.size, fun i hi _ => hb.block i hi⟩ (by cases hv : (Value.slice A N c).ownBlock <;> simp)
/-- A row that is nil or has room as great as a slice may have. -/
theorem row_room {w : World} {base N c : Nat} {A : Option Addr} {vs : List Value} (h : w.ownsRow base 37 2 (.slice A N c) N vs) : N ≤ c ∧ c ≤ maxLen := by
  rcases h.2 with ⟨e1, e2⟩ | ⟨g, cap, cur, e1, hg, hh, hcap, hmx, hsz, htk⟩
  · injection e1 with _ a2 a3
    subst a2; subst a3
    exact ⟨Nat.le_refl _, by simp [maxLen]⟩
  · injection e1 with _ _ a3
    subst a3
    exact ⟨hcap, hmx⟩

set_option maxHeartbeats 2000000 in
theorem split_any (s : St) (hp : s.l.Pairwise (· < ·)) (A2 : Option Addr) (n2 c2 g : Nat) (t : Tr) (A : Option Addr) (n c : Nat) (w : World) (h : SeesV w w.heap.size A2 n2 (s.l.map encs)) (hn2 : n2 ≤ 1099511627776)
    (hg0 : w.cell? ⟨g, 0, none⟩ = some (.bool s.all)) (hg1 : w.cell? ⟨g, 1, none⟩ = some (.slice A2 n2 c2)) (ht : Holds w w.heap.size A n t) (hn : n ≤ 549755813888) :
    Calls Try.prog 24 #[.slice A n c, .func (.func 25) #[] #[.pointer (some ⟨g, 0, none⟩)]] w fun e w' =>
      ∃ A4 n4 c4 A5 n5 c5, e = .returned (.tuple #[.slice A4 n4 c4, .slice A5 n5 c5]) ∧ Holds w' w'.heap.size A4 n4 (part (fun x => s.mem x) t) ∧ Holds w' w'.heap.size A5 n5 (part (fun x => !s.mem x) t) ∧ n4 + n5 = n ∧ n4 ≤ c4 ∧ n5 ≤ c5 ∧ c4 ≤ maxLen ∧ c5 ≤ maxLen ∧ Below w.heap.size w w' := by
  have hgs := block_lt hg0
  simp only at hgs
  have Hn := Lib.hid ht.len
  obtain ⟨f, hf⟩ : ∃ f : List UInt8 → Bool, f = fun x => s.mem x := ⟨_, rfl⟩
  obtain ⟨f', hf'⟩ : ∃ f' : List UInt8 → Bool, f' = fun x => !s.mem x := ⟨_, rfl⟩
  have Hf := Lib.hid hf
  have Hf' := Lib.hid hf'
  rw [← hf, ← hf']
  clear hf hf'
  go_enter Try.func24, Try.ntmps24
  go_wp2_with fail
  go_loopw [4, 5, 10] (fun x y i wr => ∃ (k : Nat) (A4 : Option Addr) (n4 c4 : Nat) (A5 : Option Addr) (n5 c5 : Nat) (vs us : List Value) (T U : Tr), k ≤ n ∧ i = .int .i64 k ∧ x = .slice A4 n4 c4 ∧ y = .slice A5 n5 c5 ∧ wr.ownsRow w.heap.size 37 2 (.slice A4 n4 c4) n4 vs ∧ wr.ownsRow w.heap.size 37 2 (.slice A5 n5 c5) n5 us ∧ RowT wr w.heap.size vs T ∧ RowT wr w.heap.size us U ∧ n4 + n5 = k ∧ Hid (∀ b, (Value.slice A4 n4 c4).ownBlock = some b → (Value.slice A5 n5 c5).ownBlock ≠ some b) ∧ Hid (app T (part f (t.dropT k)) = part f t) ∧ Hid (app U (part f' (t.dropT k)) = part f' t) ∧ Below w.heap.size w wr) (fun _ _ i _ => n - (intOf i).toNat)
  case atStart => exact ⟨0, none, 0, 0, none, 0, 0, [], [], .nil, .nil, Nat.zero_le _, rfl, rfl, rfl, World.ownsRow_nil _ w.heap.size _ _, World.ownsRow_nil _ w.heap.size _ _, trivial, trivial, rfl, Lib.hid (fun b e => by cases e), by rw [dropT_zero]; exact Lib.hid rfl, by rw [dropT_zero]; exact Lib.hid rfl, Below.refl _ _⟩
  case round =>
    obtain ⟨k, A4, n4, c4, A5, n5, c5, vs, us, T, U, hk, rfl, rfl, rfl, ho4, ho5, hT, hU, hnk, Hne, HT, HU, hbw⟩ := hrel
    by_cases hlt : k < n
    · obtain ⟨b, o, x, kt, r, A', n', c', rfl, hb, hs, hc, hn', hc', hk', hr, hd, hd2⟩ := (ht.below hbw).split k hlt
      have hkn : (k : Int) < (n : Int) := by omega
      have hk0 : (0 : Int) ≤ (k : Int) := by omega
      have hsz := hbw.size
      obtain ⟨W1, hW1⟩ : ∃ W, W = wr.alloc (Obj.cells #[Value.string x, Value.slice A' n' c'] 37) := ⟨_, rfl⟩
      have g0 : W1.heap[wr.heap.size]? = some (Obj.cells #[Value.string x, Value.slice A' n' c'] 37) := by rw [hW1, heap_alloc_new]
      have hb1 : Below wr.heap.size wr W1 := by rw [hW1]; exact (Below.refl _ _).alloc (Nat.le_refl _) _
      have hbW := hbw.trans (hb1.mono hsz)
      have HC := Lib.hid (of1_any s hp A2 n2 c2 g w.heap.size x A' n' c' W1 (h.keep fun p hp => hbW.cell hp) hbW.size hn2 ((hbW.cell (p := ⟨g, 0, none⟩) hgs).trans hg0) ((hbW.cell (p := ⟨g, 1, none⟩) hgs).trans hg1))
      have HB1 := Lib.hid hb1
      have HG := Lib.hid g0
      obtain ⟨q0, q1, _, _⟩ := box2 g0
      obtain ⟨v, hv⟩ : ∃ v, v = s.mem x.data.toList := ⟨_, rfl⟩
      have Hv : Hid (f x.data.toList = v) := Lib.hid (by rw [Hf.out, hv])
      have Hv' : Hid (f' x.data.toList = !v) := Lib.hid (by rw [Hf'.out, hv])
      rw [← hv] at HC
      have hsrc : ∀ (W : World) (g : Nat), g = W.heap.size → Src Try.prog 2 30 (.slice (some ⟨g, 0, none⟩) 1 1) 1 [.string x, .slice A' n' c'] (W.alloc (Obj.cells #[Value.string x, Value.slice A' n' c'] 37)) := fun W g hg =>
        hg ▸ src_edges rfl (fun j u hu => by rw [cell_of_row _ _ _ _ _ _ (heap_alloc_new W _), ← hu]; simp) (fun u hu => by simp only [List.mem_cons, List.not_mem_nil, or_false] at hu; rcases hu with rfl | rfl <;> rfl)
      have Hd := Lib.hid hd
      have Hd2 := Lib.hid hd2
      have Hr := Lib.hid hr
      clear hv hd hd2 hr hbW hb1 g0
      cases v with
      | true =>
        have hN2 : n4 + 1 ≤ 1099511627776 := by omega
        go_wp2_with fail
        rw [← hW1]
        go_wp2_with fail
        (with_reducible refine HC.out.mono ?_)
        rintro e w1 ⟨rfl, hb2⟩
        have hbr : Below wr.heap.size wr w1 := HB1.out.trans (hb2.mono HB1.out.size)
        have hbx := (Below.box hb2 HG.out)
        obtain ⟨r0, r1, _, _⟩ := box2 hbx
        have hs1 : wr.heap.size < w1.heap.size := (Array.getElem?_eq_some_iff.1 hbx).1
        have ho4' := row_below ho4 hbr
        have ho5' := row_below ho5 hbr
        have hbz := hbw.trans (hbr.mono hbw.size)
        clear hbx
        go_wp2_with (at_builtin; refine wpList_append_row rfl (.tmp 17) (.tmp 19) _ _ rfl elem_edge rfl rfl (ho4'.alloc _) (hsrc _ _ rfl) hN2 (by simp; omega) ?_; intro A3 c3 w3 ho3 hg3 hat3)
        have hbl : Below w.heap.size w1 w3 := ((Below.refl _ _).alloc (by omega) _).grown hg3 (by simp; omega) (fun q hq => (ho4'.lt q hq).1)
        have hb3 := hbz.trans hbl
        have hT3 := hT.keep (w' := w3) (fun p hp => (((hbr.mono hbw.size).trans hbl).cell hp))
        have hU3 := hU.keep (w' := w3) (fun p hp => (((hbr.mono hbw.size).trans hbl).cell hp))
        have hk3 := hk'.keep (w' := w3) (fun p hp => (((hbr.mono hbw.size).trans hbl).cell hp))
        have ho5'' : w3.ownsRow w.heap.size 37 2 (.slice A5 n5 c5) n5 us := (ho5'.alloc _).kept hg3 (by
          cases hv : (Value.slice A4 n4 c4).ownBlock with
          | none => exact Classical.em _
          | some q => exact .inr (Hne.out q hv))
        go_roundw
        case rel =>
          refine ⟨k + 1, A3, n4 + 1, c3, A5, n5, c5, _, us, app T (.cons x kt .nil), U, by omega, by go_num, rfl, rfl, ho3, ho5'', rowT_app hT3 (rowT_one hk3 hn' hc'), hU3, by omega, Lib.hid ?_, ?_, ?_, hb3⟩
          · intro q h3 h5
            have h5l := (ho5'.lt q h5).2
            cases A3 with
            | none => cases h3
            | some a =>
              injection h3 with h3
              rcases hat3 a rfl with e | e
              · simp at e; omega
              · exact Hne.out q (by rw [← e, h3]) h5
          · have := HT.out
            rw [Hd.out, part_yes Hv.out] at this
            rw [app_cons, Hd2.out]
            exact Lib.hid this
          · have := HU.out
            rw [Hd.out, part_no Hv'.out] at this
            rw [Hd2.out]
            exact Lib.hid this
        case measure => simp [intOf]; omega
      | false =>
        have hN2 : n5 + 1 ≤ 1099511627776 := by omega
        go_wp2_with fail
        rw [← hW1]
        go_wp2_with fail
        (with_reducible refine HC.out.mono ?_)
        rintro e w1 ⟨rfl, hb2⟩
        have hbr : Below wr.heap.size wr w1 := HB1.out.trans (hb2.mono HB1.out.size)
        have hbx := (Below.box hb2 HG.out)
        obtain ⟨r0, r1, _, _⟩ := box2 hbx
        have hs1 : wr.heap.size < w1.heap.size := (Array.getElem?_eq_some_iff.1 hbx).1
        have ho4' := row_below ho4 hbr
        have ho5' := row_below ho5 hbr
        have hbz := hbw.trans (hbr.mono hbw.size)
        clear hbx
        go_wp2_with (at_builtin; refine wpList_append_row rfl (.tmp 21) (.tmp 23) _ _ rfl elem_edge rfl rfl (ho5'.alloc _) (hsrc _ _ rfl) hN2 (by simp; omega) ?_; intro A3 c3 w3 ho3 hg3 hat3)
        have hbl : Below w.heap.size w1 w3 := ((Below.refl _ _).alloc (by omega) _).grown hg3 (by simp; omega) (fun q hq => (ho5'.lt q hq).1)
        have hb3 := hbz.trans hbl
        have hT3 := hT.keep (w' := w3) (fun p hp => (((hbr.mono hbw.size).trans hbl).cell hp))
        have hU3 := hU.keep (w' := w3) (fun p hp => (((hbr.mono hbw.size).trans hbl).cell hp))
        have hk3 := hk'.keep (w' := w3) (fun p hp => (((hbr.mono hbw.size).trans hbl).cell hp))
        have ho4'' : w3.ownsRow w.heap.size 37 2 (.slice A4 n4 c4) n4 vs := (ho4'.alloc _).kept hg3 (by
          cases hv : (Value.slice A5 n5 c5).ownBlock with
          | none => exact Classical.em _
          | some q => exact .inr (fun e => Hne.out q e hv))
        go_roundw
        case rel =>
          refine ⟨k + 1, A4, n4, c4, A3, n5 + 1, c3, vs, _, T, app U (.cons x kt .nil), by omega, by go_num, rfl, rfl, ho4'', ho3, hT3, rowT_app hU3 (rowT_one hk3 hn' hc'), by omega, Lib.hid ?_, ?_, ?_, hb3⟩
          · intro q h4 h3
            have h4l := (ho4'.lt q h4).2
            cases A3 with
            | none => cases h3
            | some a =>
              injection h3 with h3
              rcases hat3 a rfl with e | e
              · simp at e; omega
              · exact Hne.out q h4 (by rw [← e, h3])
          · have := HT.out
            rw [Hd.out, part_no Hv.out] at this
            rw [Hd2.out]
            exact Lib.hid this
          · have := HU.out
            rw [Hd.out, part_yes Hv'.out] at this
            rw [app_cons, Hd2.out]
            exact Lib.hid this
        case measure => simp [intOf]; omega
    · obtain rfl : k = n := by omega
      have hT2 := HT.out
      have hU2 := HU.out
      rw [drop_len t k (by rw [← Hn.out]; exact Nat.le_refl _)] at hT2 hU2
      simp only [part, app_nil] at hT2 hU2
      subst hT2; subst hU2
      have HO4 := Lib.hid ho4
      have HO5 := Lib.hid ho5
      have HT2 := Lib.hid hT
      have HU2 := Lib.hid hU
      have Hnk := Lib.hid hnk
      clear ho4 ho5 hT hU HT HU hnk hlt
      go_wp2_with fail
      go_ret2
      refine ⟨A4, n4, c4, A5, n5, c5, rfl, own_holds HO4.out (HT2.out.more hbw.size), own_holds HO5.out (HU2.out.more hbw.size), Hnk.out, (row_room HO4.out).1, (row_room HO5.out).1, (row_room HO4.out).2, (row_room HO5.out).2, hbw⟩
end Go.Proofs.Ytkponeccenehhaa.Cl
