/- diff.edge: what is below a name; slices.IndexFunc at it. Conditions: fewer than 2^39 edges, in order. -/
import Derived.Test.YtcfaocjgflefmaaDfRow
import Derived.Outline
namespace Go.Proofs.Ytcfaocjgflefmaa.Df
open Go.RowKit Go.Proofs.Ytcfaocjgflefmaa.Pt
set_option maxRecDepth 100000

theorem drop_name {t r kt : Tr} {k : Nat} {s : ByteArray} (hd : t.dropT k = .cons s kt r) : t.names[k]? = some s := by
  have h1 := names_drop t k
  rw [hd] at h1
  have := congrArg (·[0]?) h1
  simp [Tr.names] at this
  exact this.symm
theorem asc_eqn {name : ByteArray} : ∀ {t : Tr} {k : Nat}, t.Asc → t.names[k]? = some name → k = t.atN name
  | .nil, _, _, h => by simp [Tr.names] at h
  | .cons s0 k0 r, 0, ha, h => by
    simp only [Tr.names, List.getElem?_cons_zero, Option.some.injEq] at h
    subst h
    simp only [Tr.atN]
    rw [if_neg (fun e => List.lt_irrefl _ ((less_iff _ _).1 e))]
  | .cons s0 k0 r, k + 1, ha, h => by
    simp only [Tr.names, List.getElem?_cons_succ] at h
    unfold Tr.Asc at ha
    rw [bn_cons, List.pairwise_cons] at ha
    have hm : name.data.toList ∈ r.bn := List.mem_map.2 ⟨name, List.mem_of_getElem? h, rfl⟩
    simp only [Tr.atN]
    rw [if_pos ((less_iff _ _).2 (ha.1 _ hm)), asc_eqn (t := r) ha.2 h]

set_option maxHeartbeats 1000000 in
theorem edge1_any (name s : ByteArray) (A : Option Addr) (n c g : Nat) (w : World) (hg0 : w.cell? ⟨g, 0, none⟩ = some (.string name)) :
    Calls Try.prog 45 #[.agg #[.string s, .slice A n c], .pointer (some ⟨g, 0, none⟩)] w fun e w' => e = .returned (.bool (s.toList == name.toList)) ∧ Below w.heap.size w w' := by
  have hgs := block_lt hg0
  simp only at hgs
  obtain ⟨W1, hW1⟩ : ∃ W, W = w.alloc (Obj.cells #[Value.string s, Value.slice A n c] 45) := ⟨_, rfl⟩
  have hb1 : Below w.heap.size w W1 := by rw [hW1]; exact (Below.refl _ _).alloc (Nat.le_refl _) _
  have hg1 : W1.heap[w.heap.size]? = some (Obj.cells #[Value.string s, Value.slice A n c] 45) := by rw [hW1]; exact heap_alloc_new w _
  have q0 : W1.cell? ⟨w.heap.size, 0, none⟩ = some (.string s) := by rw [cell_of_row _ _ _ _ _ _ hg1]; rfl
  have q1 := (hb1.cell (p := ⟨g, 0, none⟩) hgs).trans hg0
  have HB1 := Lib.hid hb1
  obtain ⟨v, hv⟩ : ∃ v, v = (s.toList == name.toList) := ⟨_, rfl⟩
  have hv2 := hv.symm
  rw [← hv]
  clear hg1 hb1 hv
  go_enter Try.func45, Try.ntmps45
  go_wp2_with fail
  rw [← hW1]
  go_wp2_with fail
  go_ret
  exact ⟨rfl, HB1.out⟩

/-- Where the name stands, or nowhere. -/
def Fnd (t : Tr) (name : ByteArray) (i : Int) : Prop := (∃ (k : Nat) (kt r : Tr), i = (k : Int) ∧ t.dropT k = .cons name kt r) ∨ (i = -1 ∧ name ∉ t.names)
def IdxP (t : Tr) (name : ByteArray) (w : World) (e : Ending) (w' : World) : Prop := ∃ i : Int, e = .returned (.int .i64 i) ∧ Fnd t name i ∧ Below w.heap.size w w'
set_option maxHeartbeats 1000000 in
theorem idx_any (t : Tr) (name : ByteArray) (A : Option Addr) (n c g B : Nat) (w : World) (h : Holds w B A n t) (hB : B ≤ w.heap.size) (hn : n ≤ 140737488351232) (hg0 : w.cell? ⟨g, 0, none⟩ = some (.string name)) :
    Calls Try.prog 44 #[.slice A n c, .func (.func 45) #[] #[.pointer (some ⟨g, 0, none⟩)]] w (IdxP t name w) := by
  have hgs := block_lt hg0
  simp only at hgs
  have Hl := Lib.hid h.len
  have HH := Lib.hid h
  have Hg0 := Lib.hid hg0
  clear h hg0
  go_enter Try.func44, Try.ntmps44
  go_wp2_with fail
  go_loopw [8] (fun i wr => ∃ k : Nat, k ≤ n ∧ i = .int .i64 k ∧ Hid (Below w.heap.size w wr) ∧ Hid (∀ j s, j < k → t.names[j]? = some s → s ≠ name)) (fun i _ => n - (intOf i).toNat)
  case atStart => exact ⟨0, Nat.zero_le _, rfl, Lib.hid (Below.refl _ _), Lib.hid (fun j s hj => by omega)⟩
  case round =>
    obtain ⟨k, hk, rfl, HW, HN⟩ := hrel
    by_cases hlt : k < n
    · obtain ⟨b, o, s, kt, r, A', n', c', rfl, hb2, hs2, hc2, hn', hc', hk', hr, hd, hd2⟩ := (HH.out.keep fun p hp => HW.out.cell (Nat.lt_of_lt_of_le hp hB)).split k hlt
      have hkn : (k : Int) < (n : Int) := by omega
      have hk0 : (0 : Int) ≤ (k : Int) := by omega
      have HC := Lib.hid (edge1_any name s A' n' c' g wr ((HW.out.cell (p := ⟨g, 0, none⟩) hgs).trans Hg0.out))
      have Hs := Lib.hid (drop_name hd)
      have Hd := Lib.hid hd
      have Hlt := Lib.hid hlt
      cases hu : (s.toList == name.toList) with
      | false =>
        rw [hu] at HC
        have HN2 := Lib.hid (show ∀ j s, j < k + 1 → t.names[j]? = some s → s ≠ name from fun j q hj hq => by
          by_cases e : j = k
          · subst e
            rw [Hs.out, Option.some.injEq] at hq
            subst hq
            intro e
            rw [e, beq_self_eq_true] at hu
            cases hu
          · exact HN.out j q (by omega) hq)
        clear hd hd2 hk' hr hlt hu
        go_wp2_with fail
        (with_reducible refine HC.out.mono ?_)
        rintro e w2 ⟨rfl, hb3⟩
        have HW2 := Lib.hid (HW.out.trans (hb3.mono HW.out.size))
        clear hb3
        go_wp2_with fail
        go_roundw
        case rel => exact ⟨k + 1, Hlt.out, by go_num, HW2, HN2⟩
        case measure => have := Hlt.out; simp [intOf]; omega
      | true =>
        rw [hu] at HC
        have e := names_of_eq hu
        subst e
        clear hd hd2 hk' hr hlt hu
        go_wp2_with fail
        (with_reducible refine HC.out.mono ?_)
        rintro e w2 ⟨rfl, hb3⟩
        have HW2 := Lib.hid (HW.out.trans (hb3.mono HW.out.size))
        clear hb3
        go_wp2_with fail
        go_ret
        exact ⟨(k : Int), rfl, .inl ⟨k, kt, r, rfl, Hd.out⟩, HW2.out⟩
    · obtain rfl : k = n := by omega
      have HF := Lib.hid (show Fnd t name (-1) from .inr ⟨rfl, fun hm => by
        obtain ⟨j, hj, e⟩ := List.getElem_of_mem hm
        rw [names_length, ← Hl.out] at hj
        exact HN.out j name hj (by rw [← e]; exact List.getElem?_eq_getElem _) rfl⟩)
      clear hlt
      go_wp2_with fail
      go_ret
      exact ⟨-1, rfl, HF.out, HW.out⟩

def EdgP (t : Tr) (name : ByteArray) (B : Nat) (w : World) (e : Ending) (w' : World) : Prop :=
  ∃ A' n' c', e = .returned (.tuple #[.slice A' n' c', .bool (t.atIs name)]) ∧ Holds w' B A' n' (kidT t name) ∧ n' ≤ c' ∧ c' ≤ maxLen ∧ Below w.heap.size w w'
set_option maxHeartbeats 1000000 in
theorem edge_any (t : Tr) (name : ByteArray) (A : Option Addr) (n c B : Nat) (w : World) (h : Holds w B A n t) (hB : B ≤ w.heap.size) (hn : n ≤ 140737488351232) (ha : t.Asc) :
    Calls Try.prog 38 #[.slice A n c, .string name] w (EdgP t name B w) := by
  obtain ⟨W1, hW1⟩ : ∃ W, W = w.alloc (Obj.cells #[Value.string name] 9) := ⟨_, rfl⟩
  have hb1 : Below w.heap.size w W1 := by rw [hW1]; exact (Below.refl _ _).alloc (Nat.le_refl _) _
  have hg1 : W1.heap[w.heap.size]? = some (Obj.cells #[Value.string name] 9) := by rw [hW1]; exact heap_alloc_new w _
  have q0 : W1.cell? ⟨w.heap.size, 0, none⟩ = some (.string name) := by rw [cell_of_row _ _ _ _ _ _ hg1]; rfl
  have HC := Lib.hid (idx_any t name A n c w.heap.size B W1 (h.keep fun p hp => hb1.cell (Nat.lt_of_lt_of_le hp hB)) (Nat.le_trans hB hb1.size) hn q0)
  have HB1 := Lib.hid hb1
  have HH := Lib.hid h
  have Hl := Lib.hid h.len
  have Ha := Lib.hid ha
  clear hg1 hb1 h ha q0
  go_enter Try.func38, Try.ntmps38
  go_wp2_with fail
  rw [← hW1]
  go_wp2_with fail
  (with_reducible refine HC.out.mono ?_)
  rintro e w2 ⟨i, rfl, hi, hb2⟩
  have HB2 := Lib.hid (HB1.out.trans (hb2.mono HB1.out.size))
  clear hb2
  rcases hi with ⟨k, kt, r, rfl, hd⟩ | ⟨rfl, hno⟩
  · have hlt : k < n := by
      rcases Nat.lt_or_ge k n with g | g
      · exact g
      · have h1 := drop_name hd
        rw [List.getElem?_eq_none (by rw [names_length, ← Hl.out]; exact g)] at h1
        cases h1
    obtain ⟨b, o, s, kt', r', A', n', c', rfl, hb2, hs2, hc2, hn', hc', hk', hr, hd', hd2⟩ := (HH.out.keep fun p hp => HB2.out.cell (Nat.lt_of_lt_of_le hp hB)).split k hlt
    have e : kt' = kidT t name := by
      have hk := asc_eqn Ha.out (drop_name hd)
      rw [hd'] at hd
      injection hd with e1 e2 e3
      subst e1
      have hm := mem_is Ha.out (List.mem_of_getElem? (drop_name hd'))
      obtain ⟨r2, h2⟩ := set_drop hm
      rw [← hk, hd'] at h2
      injection h2
    have hv : t.atIs name = true := mem_is Ha.out (List.mem_of_getElem? (drop_name hd))
    have hkn : (k : Int) < (n : Int) := by omega
    have hk0 : (0 : Int) ≤ (k : Int) := by omega
    have hkn2 : ¬ ((k : Int) < 0) := by omega
    have HP := Lib.hid (show EdgP t name B w (.returned (.tuple #[.slice A' n' c', .bool true])) w2 from ⟨A', n', c', by rw [hv], by rw [← e]; exact hk', hn', hc', HB2.out⟩)
    clear hd hd' hd2 hk' hr e hv
    go_wp2_with fail
    go_ret2
    exact HP.out
  · have hv : t.atIs name = false := by
      cases hv : t.atIs name with
      | false => rfl
      | true => exact absurd (is_mem hv) hno
    have HP := Lib.hid (show EdgP t name B w (.returned (.tuple #[.slice none 0 0, .bool false])) w2 from ⟨none, 0, 0, by rw [hv], by rw [kidT_not hv]; rfl, Nat.le_refl _, Nat.zero_le _, HB2.out⟩)
    clear hno hv
    go_wp2_with fail
    go_ret2
    exact HP.out
end Go.Proofs.Ytcfaocjgflefmaa.Df
