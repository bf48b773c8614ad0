/- Kid of the reference, with what is below; Path: a path by numbers. Conditions: fewer than 2^30 edges beside one another; names of at most 30 bytes. -/
import Derived.Test.YtcfaocjgflefmaaPthMath
import Derived.Test.YtcfaocjgflefmaaDfWithin
import Derived.Test.YtcfaocjgflefmaaLists
namespace Go.Proofs.Ytcfaocjgflefmaa.Pt
open Go.RowKit
set_option maxRecDepth 100000

theorem set_drop {name : ByteArray} : ∀ {t : Tr}, t.atIs name = true → ∃ r, t.dropT (t.atN name) = .cons name (kidT t name) r
  | .nil, h => by simp [Tr.atIs, Tr.atN, dropT_zero, Tr.headIs] at h
  | .cons s k r, h => by
    rcases cases3 s name with c1 | ⟨c1, c2⟩ | ⟨c1, c2, _⟩
    · rw [atIs_lt c1] at h
      obtain ⟨r', h2⟩ := set_drop h
      rw [atN_lt c1, kidT_lt c1]
      exact ⟨r', h2⟩
    · have e := names_of_eq c2
      subst e
      rw [atN_ge c1, kidT_eq c1 c2]
      exact ⟨r, by rw [dropT_zero]⟩
    · rw [atIs_ge c1, c2] at h; cases h
theorem drop_lt {t : Tr} {i : Nat} {s : ByteArray} {k r : Tr} (h : t.dropT i = .cons s k r) : i < t.len := by
  rcases Nat.lt_or_ge i t.len with g | g
  · exact g
  · rw [drop_len t i g] at h; cases h

def K2P (w : World) (B : Nat) (k : Tr) (v : Bool) (e : Ending) (w' : World) : Prop :=
  ∃ A' n' c', e = .returned (.tuple #[.slice A' n' c', .bool v]) ∧ Holds w B A' n' k ∧ n' ≤ c' ∧ c' ≤ maxLen ∧ ∃ q, w' = w.drewN q

set_option maxHeartbeats 1000000 in
theorem kid2_any (t : Tr) (A : Option Addr) (n c B : Nat) (name : ByteArray) (w : World) (h : Holds w B A n t) (hB : B ≤ w.heap.size) (hn : n ≤ 140737488351232) :
    Calls Try.prog 29 #[.slice A n c, .string name] w (K2P w B (kidT t name) (t.atIs name)) := by
  have HA := Lib.hid (at_any t A n c B name w h hB hn)
  have hl := h.len
  by_cases hi : t.atIs name = true
  · obtain ⟨r, hdr⟩ := set_drop hi
    have hlt := drop_lt hdr
    rw [hi] at HA ⊢
    obtain ⟨k, hk⟩ : ∃ k, k = t.atN name := ⟨_, rfl⟩
    rw [← hk] at HA hlt hdr
    obtain ⟨b, o, s, kt, r', A', n', c', rfl, hb, hs, hc, hn', hc', hk', hr, hd, hd2⟩ := h.split k (by omega)
    have hkn : (k : Int) < (n : Int) := by omega
    have hk0 : (0 : Int) ≤ (k : Int) := by omega
    have e : kt = kidT t name := by
      rw [hdr] at hd
      injection hd with _ h2 _
      exact h2.symm
    rw [e] at hk'
    clear hk hd hd2 hi hl hdr e
    go_enter Try.func29, Try.ntmps29
    go_wp2_with fail
    refine HA.out.mono ?_
    rintro e _ ⟨rfl, q, rfl⟩
    go_wp2_with fail
    go_ret2
    exact ⟨A', n', c', rfl, hk', hn', hc', q, rfl⟩
  · have hi2 : t.atIs name = false := by simpa using hi
    have hkn := kidT_not hi2
    rw [hi2] at HA ⊢
    rw [hkn]
    obtain ⟨k, hk⟩ : ∃ k, k = t.atN name := ⟨_, rfl⟩
    rw [← hk] at HA
    clear hi hi2 hk h hl hn hkn
    go_enter Try.func29, Try.ntmps29
    go_wp2_with fail
    refine HA.out.mono ?_
    rintro e _ ⟨rfl, q, rfl⟩
    go_wp2_with fail
    go_ret2
    exact ⟨none, 0, 0, rfl, rfl, Nat.le_refl _, Nat.zero_le _, q, rfl⟩

/-- Names of at most 30 bytes. -/
def Short : Tr → Prop
  | .nil => True
  | .cons s k r => s.size ≤ 30 ∧ Short k ∧ Short r
theorem short_kid : ∀ {t : Tr} {name : ByteArray}, Short t → Short (kidT t name)
  | .nil, _, _ => trivial
  | .cons s k r, name, ⟨_, h2, h3⟩ => by
    rcases cases3 s name with c1 | ⟨c1, c2⟩ | ⟨c1, c2, _⟩
    · rw [kidT_lt c1]; exact short_kid h3
    · rw [kidT_eq c1 c2]; exact h2
    · rw [kidT_gt c1 c2]; trivial
theorem short_drop : ∀ {t : Tr} (i : Nat), Short t → Short (t.dropT i)
  | t, 0, h => by rw [dropT_zero]; exact h
  | .nil, _ + 1, _ => trivial
  | .cons _ _ _, i + 1, h => short_drop i h.2.2
theorem src_str (W : World) (s : ByteArray) (g : Nat) (hg : g = W.heap.size) : Src Try.prog 1 31 (.slice (some ⟨g, 0, none⟩) 1 1) 1 (strs [s]) (W.alloc (Obj.cells #[Value.string s] 9)) :=
  hg ▸ Src.laid Try.underlying31 rfl (fun j u hu => by rw [cell_of_row _ _ _ _ _ _ (heap_alloc_new W _), ← hu]; simp [strs]) (strs_one _)
theorem tdiv7_wf {x : Int} (h1 : -9223372036854775808 ≤ x) (h2 : x ≤ 9223372036854775807) : (Lit.int .i64 (x.tdiv 7)).wf = true := by
  refine WalkArith.wf_i64 ?_
  rcases Int.le_total 0 x with h | h
  · rw [Int.tdiv_eq_ediv_of_nonneg h]; omega
  · have e : x.tdiv 7 = -((-x) / 7) := by
      rw [← Int.tdiv_eq_ediv_of_nonneg (by omega), Int.neg_tdiv, Int.neg_neg]
    rw [e]; omega
/-- A path: at most six names. -/
def PathP (w : World) (e : Ending) (w' : World) : Prop :=
  ∃ (A' : Option Addr) (n' c' : Nat) (ps : List ByteArray), e = .returned (.slice A' n' c') ∧ ps.length ≤ 6 ∧ n' ≤ c' ∧ SeesV w' w'.heap.size A' n' (ps.map Value.string) ∧ (∀ s ∈ ps, s.size ≤ 30) ∧ Below w.heap.size w w'
structure PathI (w wr : World) (Au Ap : Option Addr) (nu cu k cp : Nat) (u : Tr) (ps : List ByteArray) : Prop where
  holds : Holds wr w.heap.size Au nu u
  short : Short u
  size : u.size ≤ 1000
  row : wr.ownsRow w.heap.size 9 1 (.slice Ap k cp) k (strs ps)
  small : ∀ s ∈ ps, s.size ≤ 30
  below : Below w.heap.size w wr
theorem PathI.len {w wr : World} {Au Ap : Option Addr} {nu cu k cp : Nat} {u : Tr} {ps : List ByteArray} (h : PathI w wr Au Ap nu cu k cp u ps) : nu ≤ 1000 := by
  have := h.holds.len
  have := u.len_size
  have := h.size
  omega
theorem PathI.drew {w wr : World} {Au Ap : Option Addr} {nu cu k cp : Nat} {u : Tr} {ps : List ByteArray} (h : PathI w wr Au Ap nu cu k cp u ps) (q : Nat) : PathI w (wr.drewN q) Au Ap nu cu k cp u ps :=
  ⟨h.holds.drewN q, h.short, h.size, by exact h.row, h.small, below_drewN h.below q⟩

theorem PathI.push {w wr W w4 : World} {Au Ap A4 : Option Addr} {nu cu k cp c4 : Nat} {u : Tr} {ps : List ByteArray} {s : ByteArray} (h : PathI w wr Au Ap nu cu k cp u ps) (hW : Below wr.heap.size wr W) (ho : w4.ownsRow w.heap.size 9 1 (.slice A4 (k + 1) c4) (k + 1) (strs ps ++ strs [s])) (hg : W.grownBy w4 (Value.slice Ap k cp).ownBlock) (hs : s.size ≤ 30) :
    PathI w w4 Au A4 nu cu (k + 1) c4 u (ps ++ [s]) ∧ ∃ g4, A4 = some ⟨g4, 0, none⟩ ∧ g4 < w4.heap.size ∧ w4.cell? ⟨g4, k, none⟩ = some (.string s) := by
  have hp := h.row.1
  rw [strs, List.length_map, Nat.mul_one] at hp
  have hb : Below w.heap.size w w4 := (h.below.trans (hW.mono h.below.size)).grown hg (Nat.le_trans h.below.size hW.size) (fun q hq => (h.row.lt q hq).1)
  have hbr : Below w.heap.size wr w4 := (hW.mono h.below.size).grown hg (Nat.le_trans h.below.size hW.size) (fun q hq => (h.row.lt q hq).1)
  have hst : strs ps ++ strs [s] = strs (ps ++ [s]) := by simp [strs]
  refine ⟨⟨h.holds.below hbr, h.short, h.size, by rw [← hst]; exact ho, fun x hx => ?_, hb⟩, ?_⟩
  · rcases List.mem_append.1 hx with hx | hx
    · exact h.small x hx
    · simp only [List.mem_cons, List.not_mem_nil, or_false] at hx
      rw [hx]; exact hs
  · rcases ho.2 with ⟨e1, e2⟩ | ⟨g, cap, cur, e1, hg1, hh, hcap, hmx, hsz, htk⟩
    · omega
    · injection e1 with a1 a2 a3
      subst a1
      refine ⟨g, rfl, (Array.getElem?_eq_some_iff.1 hh).1, ?_⟩
      have := rowCells ho k (.string s) (by rw [hst, strs, List.getElem?_map, List.getElem?_append_right (by omega)]; simp [hp])
      rw [Addr.add_lit, Nat.zero_add] at this
      exact this
theorem PathI.kid {w wr : World} {Au Ap A5 : Option Addr} {nu cu k cp n5 c5 : Nat} {u v : Tr} {ps : List ByteArray} (h : PathI w wr Au Ap nu cu k cp u ps) (q : Nat) (hv : Holds wr w.heap.size A5 n5 v) (hs : Short v) (hz : v.size ≤ 1000) : PathI w (wr.drewN q) A5 Ap n5 c5 k cp v ps :=
  ⟨hv.drewN q, hs, hz, by exact h.row, h.small, below_drewN h.below q⟩

set_option maxHeartbeats 2000000 in
theorem path_any (t : Tr) (A An : Option Addr) (n c nn cn : Nat) (ns : List Int) (w : World) (ht : Holds w w.heap.size A n t) (hn : SeesV w w.heap.size An nn (ns.map (Value.int .i64))) (hb : ∀ x ∈ ns, -9223372036854775808 ≤ x ∧ x ≤ 9223372036854775807) (hs : Short t) (hz : t.size ≤ 1000) :
    Calls Try.prog 22 #[.slice A n c, .slice An nn cn] w (PathP w) := by
  have HI0 := Lib.hid (show PathI w w A none n c 0 0 t [] from ⟨ht, hs, hz, World.ownsRow_nil _ _ _ _, fun _ h => (by cases h), Below.refl _ _⟩)
  have Hb := Lib.hid hb
  clear ht hs hz hb
  go_enter Try.func22, Try.ntmps22
  go_wp2_with fail
  go_loopw [0, 5, 6] (fun a p i wr => ∃ (k nu cu cp : Nat) (Au Ap : Option Addr) (u : Tr) (ps : List ByteArray), k ≤ 6 ∧ k ≤ nn ∧ a = .slice Au nu cu ∧ p = .slice Ap k cp ∧ i = .int .i64 k ∧ Hid (PathI w wr Au Ap nu cu k cp u ps)) (fun _ _ i _ => 6 - (intOf i).toNat)
  case atStart => exact ⟨0, n, c, 0, A, none, t, [], by omega, Nat.zero_le _, rfl, rfl, rfl, HI0⟩
  case round =>
    obtain ⟨k, nu, cu, cp, Au, Ap, u, ps, hk6, hkn, rfl, rfl, rfl, HI⟩ := hrel
    by_cases hlt : k < nn ∧ k < 6
    · obtain ⟨hl1, hl2⟩ := hlt
      obtain ⟨bn, on, rfl, hbn, hcn⟩ := hn.int hl1
      obtain ⟨x, hx⟩ : ∃ x, x = ns.getD k 0 := ⟨_, rfl⟩
      rw [← hx] at hcn
      have hxb : -9223372036854775808 ≤ x ∧ x ≤ 9223372036854775807 := by
        have hl : k < ns.length := by have := hn.len; rw [List.length_map] at this; omega
        rw [hx, List.getD_eq_getElem?_getD, List.getElem?_eq_getElem hl]
        exact Hb.out _ (List.getElem_mem hl)
      have hcw := (HI.out.below.cell (p := ⟨bn, on + k, none⟩) hbn).trans hcn
      have hbnw : bn < wr.heap.size := by have := HI.out.below.size; omega
      have hnu := HI.out.len
      have hk1 : (k : Int) < (nn : Int) := by omega
      have hk2 : (k : Int) < 6 := by omega
      have hk0 : (0 : Int) ≤ (k : Int) := by omega
      have HW1 := Lib.hid (fun W => within_any x ((nu : Int) + 1) (by omega) (by omega) (WalkArith.wf_i64 (by omega)) W)
      obtain ⟨m, hm⟩ : ∃ m : Nat, x % ((nu : Int) + 1) = (m : Int) := ⟨(x % ((nu : Int) + 1)).toNat, by have := Int.emod_nonneg x (show (nu : Int) + 1 ≠ 0 by omega); omega⟩
      have hm2 : m ≤ nu := by have := Int.emod_lt_of_pos x (show (0 : Int) < (nu : Int) + 1 by omega); omega
      rw [hm] at HW1
      have Hl1 := Lib.hid hl1
      have Hl2 := Lib.hid hl2
      have hk15 : k + 1 ≤ 1099511627776 := by omega
      clear hx hcn hm hkn hk6 hl1 hl2
      by_cases hme : m = nu
      · subst hme
        have HW2 := Lib.hid (fun W => within_any (x.tdiv 7) 3 (by omega) (by omega) (tdiv7_wf hxb.1 hxb.2) W)
        have hE : x.tdiv 7 % 3 = 0 ∨ x.tdiv 7 % 3 = 1 ∨ x.tdiv 7 % 3 = 2 := by omega
        generalize x.tdiv 7 % 3 = E at hE HW2
        go_wp2_with fail
        refine (HW1.out _).mono ?_
        rintro e _ ⟨rfl, rfl⟩
        go_wp2_with fail
        refine (HW2.out _).mono ?_
        rintro e _ ⟨rfl, rfl⟩
        rcases hE with rfl | rfl | rfl
        · go_wp2_with (at_builtin; refine wpList_append_row rfl (.tmp 32) (.tmp 42) _ _ rfl elem_str rfl rfl ((HI.out.row.alloc _).alloc _) (src_str _ ⟨#[]⟩ _ (by simp)) hk15 (by have := HI.out.below.size; simp; omega) ?_; intro A4 c4 w4 ho4 hg4 hat4; have hst := PathI.push HI.out (((Below.refl _ _).alloc (Nat.le_refl _) _).alloc (by simp) _) ho4 hg4 (by decide); obtain ⟨hst1, g4, e4, hg4l, hc4⟩ := hst; subst e4; have HS := Lib.hid hst1; clear hst1 ho4 hg4 hat4)
          refine (kid2_any u Au m cu w.heap.size ⟨#[]⟩ _ HS.out.holds HS.out.below.size (by omega)).mono ?_
          rintro e w5 ⟨A5, n5, c5, rfl, hh5, hn5, hm5, q5, rfl⟩
          have HP5 := Lib.hid (HS.out.kid (c5 := c5) q5 hh5 (short_kid HS.out.short) (Nat.le_trans (kidT_size u ⟨#[]⟩) HS.out.size))
          clear hh5
          go_wp2_with fail
          go_roundw
          case rel => exact ⟨k + 1, n5, c5, c4, A5, _, _, _, Hl2.out, Hl1.out, rfl, rfl, by go_num, HP5⟩
          case measure => have := Hl2.out; simp [intOf]; omega
        · go_wp2_with (at_builtin; refine wpList_append_row rfl (.tmp 32) (.tmp 42) _ _ rfl elem_str rfl rfl ((HI.out.row.alloc _).alloc _) (src_str _ ⟨#[97]⟩ _ (by simp)) hk15 (by have := HI.out.below.size; simp; omega) ?_; intro A4 c4 w4 ho4 hg4 hat4; have hst := PathI.push HI.out (((Below.refl _ _).alloc (Nat.le_refl _) _).alloc (by simp) _) ho4 hg4 (by decide); obtain ⟨hst1, g4, e4, hg4l, hc4⟩ := hst; subst e4; have HS := Lib.hid hst1; clear hst1 ho4 hg4 hat4)
          refine (kid2_any u Au m cu w.heap.size ⟨#[97]⟩ _ HS.out.holds HS.out.below.size (by omega)).mono ?_
          rintro e w5 ⟨A5, n5, c5, rfl, hh5, hn5, hm5, q5, rfl⟩
          have HP5 := Lib.hid (HS.out.kid (c5 := c5) q5 hh5 (short_kid HS.out.short) (Nat.le_trans (kidT_size u ⟨#[97]⟩) HS.out.size))
          clear hh5
          go_wp2_with fail
          go_roundw
          case rel => exact ⟨k + 1, n5, c5, c4, A5, _, _, _, Hl2.out, Hl1.out, rfl, rfl, by go_num, HP5⟩
          case measure => have := Hl2.out; simp [intOf]; omega
        · go_wp2_with (at_builtin; refine wpList_append_row rfl (.tmp 32) (.tmp 42) _ _ rfl elem_str rfl rfl ((HI.out.row.alloc _).alloc _) (src_str _ ⟨#[122, 122]⟩ _ (by simp)) hk15 (by have := HI.out.below.size; simp; omega) ?_; intro A4 c4 w4 ho4 hg4 hat4; have hst := PathI.push HI.out (((Below.refl _ _).alloc (Nat.le_refl _) _).alloc (by simp) _) ho4 hg4 (by decide); obtain ⟨hst1, g4, e4, hg4l, hc4⟩ := hst; subst e4; have HS := Lib.hid hst1; clear hst1 ho4 hg4 hat4)
          refine (kid2_any u Au m cu w.heap.size ⟨#[122, 122]⟩ _ HS.out.holds HS.out.below.size (by omega)).mono ?_
          rintro e w5 ⟨A5, n5, c5, rfl, hh5, hn5, hm5, q5, rfl⟩
          have HP5 := Lib.hid (HS.out.kid (c5 := c5) q5 hh5 (short_kid HS.out.short) (Nat.le_trans (kidT_size u ⟨#[122, 122]⟩) HS.out.size))
          clear hh5
          go_wp2_with fail
          go_roundw
          case rel => exact ⟨k + 1, n5, c5, c4, A5, _, _, _, Hl2.out, Hl1.out, rfl, rfl, by go_num, HP5⟩
          case measure => have := Hl2.out; simp [intOf]; omega
      · have hml : m < nu := by omega
        obtain ⟨b, o, s, kt, r, A', n', c', e, hbu, hsu, hclu, hn', hc', hk', hr, hd, hd2⟩ := HI.out.holds.split m hml
        subst e
        have hme2 : ¬ ((m : Int) = (nu : Int)) := by omega
        have hmi : (m : Int) < (nu : Int) := by omega
        have hm0 : (0 : Int) ≤ (m : Int) := by omega
        have hsd := short_drop m HI.out.short
        have hszd := size_drop u m
        rw [hd] at hsd hszd
        obtain ⟨hs30, hsk, _⟩ := hsd
        simp only [Tr.size] at hszd
        have hus := HI.out.size
        have hktz : kt.size ≤ 1000 := by omega
        have Hk' := Lib.hid hk'
        have hbuw : b < wr.heap.size := by have := HI.out.below.size; omega
        clear hd hd2 hszd hus hr hk' hme
        go_wp2_with fail
        refine (HW1.out _).mono ?_
        rintro e _ ⟨rfl, rfl⟩
        go_wp2_with (at_builtin; refine wpList_append_row rfl (.tmp 54) (.tmp 60) _ _ rfl elem_str rfl rfl (HI.out.row.alloc _) (src_str _ s _ rfl) hk15 (by have := HI.out.below.size; simp; omega) ?_; intro A4 c4 w4 ho4 hg4 hat4; have hst := PathI.push HI.out ((Below.refl _ _).alloc (Nat.le_refl _) _) ho4 hg4 hs30; have hb4 : Below w.heap.size wr w4 := (((Below.refl _ _).alloc HI.out.below.size _).grown hg4 (by have := HI.out.below.size; simp; omega) (fun q hq => (HI.out.row.lt q hq).1)); have hcl4 := (hb4.cell (p := ⟨b, o + m * 2 + 1, none⟩) hbu).trans hclu; have HP5 := Lib.hid (PathI.kid hst.1 (c5 := c') 0 (Hk'.out.below hb4) hsk hktz); clear hst ho4 hg4 hat4)
        go_roundw
        case rel => exact ⟨k + 1, n', c', c4, A', A4, kt, _, Hl2.out, Hl1.out, rfl, rfl, by go_num, HP5⟩
        case measure => have := Hl2.out; simp [intOf]; omega
    · have hP : PathP w (.returned (.slice Ap k cp)) wr := by
        have hp := HI.out.row.1
        rw [strs, List.length_map, Nat.mul_one] at hp
        refine ⟨Ap, k, cp, ps, rfl, by omega, (own_cap HI.out.row).1, ⟨by rw [List.length_map, hp], fun j v hv => ?_⟩, HI.out.small, HI.out.below⟩
        rcases HI.out.row.2 with ⟨e1, e2⟩ | ⟨g, cap, cur, e1, hg, hh, hcap, hmx, hsz, htk⟩
        · subst e2
          have : ps = [] := List.eq_nil_of_length_eq_zero hp
          subst this
          simp at hv
        · injection e1 with a1 a2 a3
          subst a1
          refine ⟨g, 0, rfl, (Array.getElem?_eq_some_iff.1 hh).1, ?_⟩
          have := rowCells HI.out.row j v hv
          rw [Addr.add_lit] at this
          exact this
      have HP := Lib.hid hP
      have hcase : (¬ k < nn) ∨ (k < nn ∧ ¬ k < 6) := by omega
      clear hP
      rcases hcase with h1 | ⟨h1, h2⟩
      · have h1' : ¬ ((k : Int) < (nn : Int)) := by omega
        clear hlt
        go_wp2_with fail
        go_ret
        exact HP.out
      · have h1' : (k : Int) < (nn : Int) := by omega
        have h2' : ¬ ((k : Int) < 6) := by omega
        clear hlt
        go_wp2_with fail
        go_ret
        exact HP.out
end Go.Proofs.Ytcfaocjgflefmaa.Pt
