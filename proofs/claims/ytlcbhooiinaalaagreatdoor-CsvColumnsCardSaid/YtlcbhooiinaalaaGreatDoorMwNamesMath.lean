/- Names in order, each once: what sorting and leaving out makes; trees whose edges stand in order. No conditions. · tree.find at edges that stand in order: where the edge of that name stands or would stand, and whether it is there. No conditions. -/
import Derived.Test.YtlcbhooiinaalaaGreatDoorNames
namespace Go.Proofs.YtlcbhooiinaalaaGreatDoor
open Go.RowKit

/-- The names as bytes. -/
def Tr.bn (t : Tr) : List (List UInt8) := t.names.map (·.data.toList)
theorem bn_cons (s : ByteArray) (k r : Tr) : (Tr.cons s k r).bn = s.data.toList :: r.bn := rfl
theorem bn_length (t : Tr) : t.bn.length = t.len := by rw [Tr.bn, List.length_map, names_length]
def Tr.Asc (t : Tr) : Prop := t.bn.Pairwise (· < ·)
theorem bytes_eq {s t : ByteArray} (h : s.toList = t.toList) : s = t := by
  rw [ByteArray.toList_eq, ByteArray.toList_eq] at h
  exact ByteArray.ext (Array.toList_inj.1 h)
theorem less_iff (x y : ByteArray) : Op.bytesLess x.toList y.toList = true ↔ x.data.toList < y.data.toList := by
  rw [Go.Proofs.bytesLess_eq, ByteArray.toList_eq, ByteArray.toList_eq, decide_eq_true_iff]

theorem withT_mem {name : ByteArray} {x : Tr} {y : List UInt8} : ∀ {t : Tr}, y ∈ (t.withT name x).bn → y = name.data.toList ∨ y ∈ t.bn
  | .nil, h => by simp only [Tr.withT, bn_cons, List.mem_cons] at h; exact h
  | .cons s k r, h => by
    unfold Tr.withT at h
    split at h
    · rw [bn_cons, List.mem_cons] at h
      rcases h with rfl | h
      · right; rw [bn_cons]; exact List.mem_cons_self
      · rcases withT_mem h with e | e
        · exact .inl e
        · right; rw [bn_cons]; exact List.mem_cons_of_mem _ e
    · split at h
      · rw [bn_cons, List.mem_cons] at h
        rcases h with e | h
        · exact .inl e
        · right; rw [bn_cons]; exact List.mem_cons_of_mem _ h
      · rw [bn_cons, List.mem_cons] at h
        exact h
theorem withT_asc {name : ByteArray} {x : Tr} : ∀ {t : Tr}, t.Asc → (t.withT name x).Asc
  | .nil, _ => by unfold Tr.Asc; simp [Tr.withT, Tr.bn, Tr.names]
  | .cons s k r, h => by
    unfold Tr.Asc at h
    rw [bn_cons, List.pairwise_cons] at h
    unfold Tr.withT
    split
    · rename_i hl
      unfold Tr.Asc
      rw [bn_cons, List.pairwise_cons]
      refine ⟨fun y hy => ?_, withT_asc (t := r) h.2⟩
      rcases withT_mem hy with rfl | e
      · exact (less_iff _ _).1 hl
      · exact h.1 y e
    · rename_i hl
      split
      · rename_i he
        have he := bytes_eq (beq_iff_eq.1 he)
        subst he
        unfold Tr.Asc
        rw [bn_cons, List.pairwise_cons]
        exact h
      · rename_i he
        have h1 : name.data.toList < s.data.toList := by
          rcases List.le_total s.data.toList name.data.toList with h2 | h2
          · by_cases h3 : name.data.toList ≤ s.data.toList
            · have := List.le_antisymm h2 h3
              rw [← ByteArray.toList_eq, ← ByteArray.toList_eq] at this
              exact absurd (beq_iff_eq.2 this) he
            · exact absurd ((less_iff _ _).2 (by simpa using h3)) hl
          · by_cases h3 : s.data.toList ≤ name.data.toList
            · have := List.le_antisymm h3 h2
              rw [← ByteArray.toList_eq, ← ByteArray.toList_eq] at this
              exact absurd (beq_iff_eq.2 this) he
            · simpa using h3
        unfold Tr.Asc
        rw [bn_cons, bn_cons, List.pairwise_cons, List.pairwise_cons]
        refine ⟨fun y hy => ?_, h⟩
        rcases List.mem_cons.1 hy with rfl | e
        · exact h1
        · exact List.lt_trans h1 (h.1 y e)
theorem makeT_asc (W : Nat) : ∀ (t : Tr) (l d : Nat) (acc : Tr), acc.Asc → (t.makeT W l d acc).Asc
  | .nil, _, _, _, h => by simpa [Tr.makeT] using h
  | .cons s k r, l, d, acc, h => by
    unfold Tr.makeT
    split
    · exact h
    · exact makeT_asc W r _ _ _ (withT_asc h)
theorem nil_asc : Tr.nil.Asc := List.Pairwise.nil
theorem withT_len_le {name : ByteArray} {x t : Tr} : (t.withT name x).len ≤ t.len + 1 := by
  have := withT_len name x t
  omega

theorem atIs_mem {name : ByteArray} : ∀ {t : Tr}, t.Asc → name.data.toList ∈ t.bn → t.atIs name = true
  | .nil, _, h => by simp [Tr.bn, Tr.names] at h
  | .cons s k r, ha, h => by
    unfold Tr.Asc at ha
    rw [bn_cons, List.pairwise_cons] at ha
    rw [bn_cons, List.mem_cons] at h
    unfold Tr.atIs
    by_cases hl : Op.bytesLess s.toList name.toList = true
    · have hlt := (less_iff _ _).1 hl
      simp only [Tr.atN]
      rw [if_pos hl]
      rcases h with e | h
      · rw [e] at hlt
        exact absurd hlt (List.lt_irrefl _)
      · exact atIs_mem (t := r) ha.2 h
    · simp only [Tr.atN]
      rw [if_neg hl]
      rcases h with e | h
      · have e2 : s = name := ByteArray.ext (Array.toList_inj.1 e.symm)
        subst e2
        rw [dropT_zero]
        simp [Tr.headIs]
      · exact absurd ((less_iff _ _).2 (ha.1 _ h)) hl

/-- Of a list in order: what compactUpTo keeps. -/
theorem upTo_facts (zs : List (List UInt8)) (h : zs.Pairwise (· ≤ ·)) : ∀ m, m ≤ zs.length →
    (Go.Lib.compactUpTo zs.toArray m).Pairwise (· < ·) ∧ (∀ x ∈ Go.Lib.compactUpTo zs.toArray m, ∃ j, j < m ∧ x = zs.toArray[j]!) ∧ ∀ j, j < m → zs.toArray[j]! ∈ Go.Lib.compactUpTo zs.toArray m := by
  have hle : ∀ i j, i ≤ j → j < zs.length → zs.toArray[i]! ≤ zs.toArray[j]! := by
    intro i j hij hj
    rw [getElem!_pos _ i (by simp; omega), getElem!_pos _ j (by simpa using hj)]
    simp only [List.getElem_toArray]
    rcases Nat.lt_or_ge i j with g | g
    · exact List.pairwise_iff_getElem.1 h i j (by omega) hj g
    · obtain rfl : i = j := by omega
      exact List.le_refl _
  intro m
  induction m with
  | zero => intro _; exact ⟨by simp [Go.Lib.compactUpTo], by simp [Go.Lib.compactUpTo], by intro j hj; omega⟩
  | succ m ih =>
    intro hm
    obtain ⟨h1, h2, h3⟩ := ih (by omega)
    rw [Go.Lib.compactUpTo_succ]
    by_cases hk : Go.Lib.keeps zs.toArray m = true
    · rw [if_pos hk]
      have hk' := of_decide_eq_true hk
      refine ⟨?_, ?_, ?_⟩
      · rw [List.pairwise_append]
        refine ⟨h1, List.pairwise_singleton _ _, fun x hx y hy => ?_⟩
        obtain ⟨j, hj, rfl⟩ := h2 x hx
        rw [List.mem_singleton] at hy
        subst hy
        rcases hk' with e | e
        · omega
        · have a1 := hle j (m - 1) (by omega) (by omega)
          have a2 := hle (m - 1) m (by omega) (by omega)
          refine List.lt_of_le_of_lt a1 ?_
          by_cases h4 : zs.toArray[m]! ≤ zs.toArray[m - 1]!
          · exact absurd (List.le_antisymm h4 a2) e
          · simpa using h4
      · intro x hx
        rw [List.mem_append, List.mem_singleton] at hx
        rcases hx with hx | rfl
        · obtain ⟨j, hj, e⟩ := h2 x hx
          exact ⟨j, by omega, e⟩
        · exact ⟨m, by omega, rfl⟩
      · intro j hj
        rw [List.mem_append, List.mem_singleton]
        by_cases e : j = m
        · right; rw [e]
        · left; exact h3 j (by omega)
    · rw [if_neg hk, List.append_nil]
      have hk' : ¬ (m = 0 ∨ zs.toArray[m]! ≠ zs.toArray[m - 1]!) := fun e => hk (decide_eq_true e)
      refine ⟨h1, fun x hx => ?_, fun j hj => ?_⟩
      · obtain ⟨j, hj, e⟩ := h2 x hx
        exact ⟨j, by omega, e⟩
      · by_cases e : j = m
        · subst e
          have e1 : zs.toArray[j]! = zs.toArray[j - 1]! := Classical.byContradiction fun h => hk' (.inr h)
          rw [e1]
          exact h3 (j - 1) (by omega)
        · exact h3 j (by omega)
theorem sorted_pair (ss : List (List UInt8)) : (sorted ss).Pairwise (· ≤ ·) :=
  (List.pairwise_mergeSort (le := fun x y => decide (x ≤ y)) (fun a b c h1 h2 => by simp only [decide_eq_true_eq] at *; exact List.le_trans h1 h2) (fun a b => by simp only [Bool.or_eq_true, decide_eq_true_eq]; exact List.le_total a b) ss).imp (fun h => of_decide_eq_true h)
theorem namesOf_pair (L : List ByteArray) : (namesOf L).Pairwise (· < ·) :=
  (upTo_facts _ (sorted_pair _) _ (Nat.le_refl _)).1
theorem namesOf_mem (L : List ByteArray) (x : List UInt8) : x ∈ namesOf L ↔ x ∈ L.map (·.data.toList) := by
  obtain ⟨_, h2, h3⟩ := upTo_facts _ (sorted_pair (L.map (·.data.toList))) _ (Nat.le_refl _)
  have hp : ∀ y, y ∈ sorted (L.map (·.data.toList)) ↔ y ∈ L.map (·.data.toList) := fun y => List.mem_mergeSort
  rw [← hp]
  constructor
  · intro hx
    obtain ⟨j, hj, rfl⟩ := h2 x hx
    rw [getElem!_pos _ j (by simpa using hj)]
    simp
  · intro hx
    obtain ⟨j, hj, rfl⟩ := List.getElem_of_mem hx
    have := h3 j hj
    rw [getElem!_pos _ j (by simpa using hj), List.getElem_toArray] at this
    exact this
theorem len_le {α : Type} [DecidableEq α] : ∀ (l m : List α), l.Nodup → (∀ x ∈ l, x ∈ m) → l.length ≤ m.length
  | [], m, _, _ => Nat.zero_le _
  | a :: l, m, hd, hs => by
    rw [List.nodup_cons] at hd
    have ha := hs a List.mem_cons_self
    have := len_le l (m.erase a) hd.2 (fun x hx => (List.mem_erase_of_ne (fun e => hd.1 (by rw [← e]; exact hx))).2 (hs x (List.mem_cons_of_mem _ hx)))
    rw [List.length_erase_of_mem ha] at this
    have : 0 < m.length := List.length_pos_of_mem ha
    simp only [List.length_cons]
    omega
theorem asc_nodup {l : List (List UInt8)} (h : l.Pairwise (· < ·)) : l.Nodup :=
  h.imp (fun h e => by rw [e] at h; exact List.lt_irrefl _ h)
/-- Two lists in order with the same members are one. -/
theorem asc_eq : ∀ {l m : List (List UInt8)}, l.Pairwise (· < ·) → m.Pairwise (· < ·) → (∀ x, x ∈ l ↔ x ∈ m) → l = m
  | [], [], _, _, _ => rfl
  | [], b :: m, _, _, h => by have := (h b).2 List.mem_cons_self; simp at this
  | a :: l, [], _, _, h => by have := (h a).1 List.mem_cons_self; simp at this
  | a :: l, b :: m, hl, hm, h => by
    rw [List.pairwise_cons] at hl hm
    have e : a = b := by
      have h1 := (h a).1 List.mem_cons_self
      have h2 := (h b).2 List.mem_cons_self
      rw [List.mem_cons] at h1 h2
      rcases h1 with e | h1
      · exact e
      · rcases h2 with e | h2
        · exact e.symm
        · exact absurd (List.lt_trans (hl.1 b h2) (hm.1 a h1)) (List.lt_irrefl _)
    subst e
    rw [asc_eq hl.2 hm.2 (fun x => ?_)]
    have := h x
    rw [List.mem_cons, List.mem_cons] at this
    constructor
    · intro hx
      rcases this.1 (.inr hx) with e | e
      · subst e; exact absurd (hl.1 _ hx) (List.lt_irrefl _)
      · exact e
    · intro hx
      rcases this.2 (.inr hx) with e | e
      · subst e; exact absurd (hm.1 _ hx) (List.lt_irrefl _)
      · exact e
theorem namesOf_asc {t : Tr} (h : t.Asc) : namesOf t.names = t.bn := asc_eq (namesOf_pair _) h (fun x => namesOf_mem _ x)
theorem namesOf_ge (L : List ByteArray) {t : Tr} (h : t.Asc) (hs : ∀ x ∈ t.bn, x ∈ L.map (·.data.toList)) : t.len ≤ (namesOf L).length := by
  rw [← bn_length]
  exact len_le _ _ (asc_nodup h) (fun x hx => (namesOf_mem L x).2 (hs x hx))
theorem namesOf_le (L : List ByteArray) : (namesOf L).length ≤ L.length := by
  have := once_le (sorted (L.map (·.data.toList)))
  rw [sorted_length, List.length_map] at this
  exact this
end Go.Proofs.YtlcbhooiinaalaaGreatDoor
namespace Go.Proofs.YtlcbhooiinaalaaGreatDoor
open Go.RowKit
set_option maxRecDepth 100000

theorem asc_at {name : ByteArray} : ∀ {t : Tr} {k : Nat} {s : ByteArray}, t.Asc → t.names[k]? = some s → (Op.bytesLess s.toList name.toList = true ↔ k < t.atN name)
  | .nil, _, _, _, h => by simp [Tr.names] at h
  | .cons s0 k0 r, 0, s, ha, h => by
    simp only [Tr.names, List.getElem?_cons_zero, Option.some.injEq] at h
    subst h
    simp only [Tr.atN]
    split
    · rename_i hl; simp [hl]
    · rename_i hl; simp [hl]
  | .cons s0 k0 r, k + 1, s, ha, h => by
    simp only [Tr.names, List.getElem?_cons_succ] at h
    have ha' := ha
    unfold Tr.Asc at ha'
    rw [bn_cons, List.pairwise_cons] at ha'
    simp only [Tr.atN]
    split
    · rw [asc_at (t := r) ha'.2 h]
      omega
    · rename_i hl
      constructor
      · intro hs
        have hm : s.data.toList ∈ r.bn := List.mem_map.2 ⟨s, List.mem_of_getElem? h, rfl⟩
        exact absurd ((less_iff _ _).2 (List.lt_trans (ha'.1 _ hm) ((less_iff _ _).1 hs))) hl
      · intro hs; omega
theorem asc_eqn {name : ByteArray} : ∀ {t : Tr} {k : Nat}, t.Asc → t.names[k]? = some name → k = t.atN name
  | .nil, _, _, h => by simp [Tr.names] at h
  | .cons s0 k0 r, 0, ha, h => by
    simp only [Tr.names, List.getElem?_cons_zero, Option.some.injEq] at h
    subst h
    simp only [Tr.atN]
    rw [if_neg (fun e => List.lt_irrefl _ ((less_iff _ _).1 e))]
  | .cons s0 k0 r, k + 1, ha, h => by
    simp only [Tr.names, List.getElem?_cons_succ] at h
    unfold Tr.Asc at ha
    rw [bn_cons, List.pairwise_cons] at ha
    have hm : name.data.toList ∈ r.bn := List.mem_map.2 ⟨name, List.mem_of_getElem? h, rfl⟩
    simp only [Tr.atN]
    rw [if_pos ((less_iff _ _).2 (ha.1 _ hm)), asc_eqn (t := r) ha.2 h]
theorem at_there {name : ByteArray} : ∀ {t : Tr} {k : Nat} {s : ByteArray}, t.names[k]? = some s → k = t.atN name → t.atIs name = (s.toList == name.toList)
  | .nil, _, _, h, _ => by simp [Tr.names] at h
  | .cons s0 k0 r, k, s, h, hk => by
    unfold Tr.atIs
    simp only [Tr.atN] at hk ⊢
    split at hk
    · rename_i hl
      subst hk
      rw [if_pos hl]
      simp only [Tr.names, List.getElem?_cons_succ] at h
      exact at_there (t := r) h rfl
    · rename_i hl
      subst hk
      rw [if_neg hl]
      simp only [Tr.names, List.getElem?_cons_zero, Option.some.injEq] at h
      subst h
      rw [dropT_zero]
      rfl
theorem drop_names {t r kt : Tr} {k : Nat} {s : ByteArray} (hd : t.dropT k = .cons s kt r) : t.names[k]? = some s := by
  have h1 := names_drop t k
  rw [hd] at h1
  have := congrArg (·[0]?) h1
  simp [Tr.names] at this
  exact this.symm

set_option maxHeartbeats 2000000 in
theorem find_any (t : Tr) (ha : t.Asc) (A : Option Addr) (n c B : Nat) (name : ByteArray) (w : World) (h : Holds w B A n t) (hB : B ≤ w.heap.size) (hn : n ≤ 140737488351232) :
    Calls Tryz.prog 98 #[.slice A n c, .string name] w fun e w' => e = .returned (.tuple #[.int .i64 (t.atN name : Nat), .bool (t.atIs name)]) ∧ Below B w w' := by
  have Hn := Lib.hid h.len
  have hle := atN_le name t
  rw [← Hn.out] at hle
  have Hlt := Lib.hid (fun e => atIs_lt (name := name) (t := t) e)
  obtain ⟨p, hp⟩ : ∃ p, p = t.atN name := ⟨_, rfl⟩
  obtain ⟨v, hv⟩ : ∃ v, v = t.atIs name := ⟨_, rfl⟩
  have Hat := Lib.hid (fun (k : Nat) (s : ByteArray) (h : t.names[k]? = some s) => asc_at (name := name) ha h)
  have Hth := Lib.hid (fun (k : Nat) (s : ByteArray) (h : t.names[k]? = some s) => at_there (name := name) (k := k) h)
  have Heq := Lib.hid (fun (k : Nat) (h : t.names[k]? = some name) => asc_eqn (name := name) ha h)
  rw [← hp] at hle Hlt Hat Hth Heq ⊢
  rw [← hv] at Hlt Hth ⊢
  clear hp hv
  go_enter Tryz.func98, Tryz.ntmps98
  go_wp2_with fail
  go_loopw [6, 13] (fun a i wr => ∃ (k at' : Nat), k ≤ n ∧ i = .int .i64 k ∧ a = .int .i64 at' ∧ Hid (k ≤ p → at' = n) ∧ Hid (p < k → at' = p ∧ v = false) ∧ Below B w wr) (fun _ i _ => n - (intOf i).toNat)
  case atStart => exact ⟨0, n, Nat.zero_le _, rfl, rfl, Lib.hid (fun _ => rfl), Lib.hid (fun h => by omega), Below.refl _ _⟩
  case round =>
    obtain ⟨k, q, hk, rfl, rfl, H1, H2, hbw⟩ := hrel
    by_cases hlt : k < n
    · obtain ⟨b, o, s, kt, r, A', n', c', rfl, hb, hs, hc, hn', hc', hk', hr, hd, hd2⟩ := (h.below hbw).split k hlt
      have hnm := drop_names hd
      have hkn : (k : Int) < (n : Int) := by omega
      have hk0 : (0 : Int) ≤ (k : Int) := by omega
      have hat := Hat.out k s hnm
      have hth := Hth.out k s hnm
      have HkN := Lib.hid hlt
      have hsz := hbw.size
      have hbr := hbw.alloc (Nat.le_trans hB hsz) (Obj.cells #[Value.string s, Value.slice A' n' c'] 55)
      by_cases he : s.toList = name.toList
      · have hs0 := bytes_eq he
        subst hs0
        have hkp := Heq.out k hnm
        subst hkp
        have hv := hth rfl
        rw [beq_self_eq_true] at hv
        subst hv
        clear hat hth hd hd2 hnm H1 H2 hlt
        have he2 : (s.toList == s.toList) = true := by simp
        go_wp2_with fail
        go_ret2
        exact ⟨rfl, hbr⟩
      · have he2 : (s.toList == name.toList) = false := by simpa using he
        cases hl : Op.bytesLess s.toList name.toList with
        | true =>
          have hkp := hat.1 hl
          have hq := H1.out (by omega)
          subst hq
          have Hkp := Lib.hid hkp
          clear hat hth hd hd2 hnm H1 H2 hlt hkp he
          go_wp2_with fail
          go_roundw
          case rel => exact ⟨k + 1, q, by have := HkN.out; omega, by go_num, rfl, Lib.hid (fun _ => rfl), Lib.hid (fun g => by have := Hkp.out; omega), hbr⟩
          case measure => have := HkN.out; simp [intOf]; omega
        | false =>
          have hpk : p ≤ k := by
            rcases Nat.lt_or_ge k p with g | g
            · rw [hat.2 g] at hl; cases hl
            · exact g
          rcases Nat.lt_or_ge p k with g | g
          · obtain ⟨rfl, hv⟩ := H2.out g
            have Hv := Lib.hid hv
            have hmin : ((k : Int) < (q : Int)) = False := by simp; omega
            have hmin2 : ¬ ((k : Int) < (q : Int)) := by omega
            have hmin3 : ¬ (k < q) := by omega
            have Hg := Lib.hid g
            clear hat hth hd hd2 hnm H1 H2 hlt he hv hpk g
            go_wp2_with fail
            go_roundw
            case rel => exact ⟨k + 1, q, by have := HkN.out; omega, by go_num, by go_num, Lib.hid (fun g2 => by have := Hg.out; omega), Lib.hid (fun _ => ⟨rfl, Hv.out⟩), hbr⟩
            case measure => have := HkN.out; simp [intOf]; omega
          · obtain rfl : k = p := by omega
            obtain rfl := H1.out (Nat.le_refl _)
            have hv := hth rfl
            rw [he2] at hv
            have Hv := Lib.hid hv
            have hmin2 : ((k : Int) < (q : Int)) := hkn
            have hmin3 : k < q := by omega
            clear hat hth hd hd2 hnm H1 H2 he hv hpk g
            go_wp2_with fail
            go_roundw
            case rel => exact ⟨k + 1, k, by have := HkN.out; omega, by go_num, by go_num, Lib.hid (fun g2 => by omega), Lib.hid (fun _ => ⟨rfl, Hv.out⟩), hbr⟩
            case measure => have := HkN.out; simp [intOf]; omega
    · obtain rfl : k = n := by omega
      have hvp : q = p ∧ v = false := by
        rcases Nat.lt_or_ge p k with g | g
        · exact H2.out g
        · have hq := H1.out g
          refine ⟨by omega, ?_⟩
          cases v with
          | false => rfl
          | true => have := Hlt.out rfl; rw [← Hn.out] at this; omega
      obtain ⟨rfl, rfl⟩ := hvp
      have hkk : ¬ ((k : Int) < (k : Int)) := by omega
      clear H1 H2 hlt
      go_wp2_with fail
      go_ret2
      exact ⟨rfl, hbw⟩
end Go.Proofs.YtlcbhooiinaalaaGreatDoor
