/- Names in order, each once: what sorting and leaving out makes; trees whose edges stand in order. No conditions. · tree.find at edges that stand in order: where the edge of that name stands or would stand, and whether it is there. No conditions. · Trees and paths: what is below a path, with something put there, without it. No conditions. · csv: edges sorted at once, and put in one by one, are the same tree where their names are distinct. No conditions. · ini: the file of a tree that is put into a file, as plain mathematics. No conditions. -/
import Derived.Test.YtgefoehpdiiomaaGreatDoorNames
import Derived.Test.YtgefoehpdiiomaaGreatDoorMwCvGrow
import Derived.Test.YtgefoehpdiiomaaGreatDoorMwCvOrdM
namespace Go.Proofs.YtgefoehpdiiomaaGreatDoor
open Go.RowKit

/-- The names as bytes. -/
def Tr.bn (t : Tr) : List (List UInt8) := t.names.map (·.data.toList)
theorem bn_cons (s : ByteArray) (k r : Tr) : (Tr.cons s k r).bn = s.data.toList :: r.bn := rfl
theorem bn_length (t : Tr) : t.bn.length = t.len := by rw [Tr.bn, List.length_map, names_length]
def Tr.Asc (t : Tr) : Prop := t.bn.Pairwise (· < ·)
theorem bytes_eq {s t : ByteArray} (h : s.toList = t.toList) : s = t := by
  rw [ByteArray.toList_eq, ByteArray.toList_eq] at h
  exact ByteArray.ext (Array.toList_inj.1 h)
theorem less_iff (x y : ByteArray) : Op.bytesLess x.toList y.toList = true ↔ x.data.toList < y.data.toList := by
  rw [Go.Proofs.bytesLess_eq, ByteArray.toList_eq, ByteArray.toList_eq, decide_eq_true_iff]

theorem withT_mem {name : ByteArray} {x : Tr} {y : List UInt8} : ∀ {t : Tr}, y ∈ (t.withT name x).bn → y = name.data.toList ∨ y ∈ t.bn
  | .nil, h => by simp only [Tr.withT, bn_cons, List.mem_cons] at h; exact h
  | .cons s k r, h => by
    unfold Tr.withT at h
    split at h
    · rw [bn_cons, List.mem_cons] at h
      rcases h with rfl | h
      · right; rw [bn_cons]; exact List.mem_cons_self
      · rcases withT_mem h with e | e
        · exact .inl e
        · right; rw [bn_cons]; exact List.mem_cons_of_mem _ e
    · split at h
      · rw [bn_cons, List.mem_cons] at h
        rcases h with e | h
        · exact .inl e
        · right; rw [bn_cons]; exact List.mem_cons_of_mem _ h
      · rw [bn_cons, List.mem_cons] at h
        exact h
theorem withT_asc {name : ByteArray} {x : Tr} : ∀ {t : Tr}, t.Asc → (t.withT name x).Asc
  | .nil, _ => by unfold Tr.Asc; simp [Tr.withT, Tr.bn, Tr.names]
  | .cons s k r, h => by
    unfold Tr.Asc at h
    rw [bn_cons, List.pairwise_cons] at h
    unfold Tr.withT
    split
    · rename_i hl
      unfold Tr.Asc
      rw [bn_cons, List.pairwise_cons]
      refine ⟨fun y hy => ?_, withT_asc (t := r) h.2⟩
      rcases withT_mem hy with rfl | e
      · exact (less_iff _ _).1 hl
      · exact h.1 y e
    · rename_i hl
      split
      · rename_i he
        have he := bytes_eq (beq_iff_eq.1 he)
        subst he
        unfold Tr.Asc
        rw [bn_cons, List.pairwise_cons]
        exact h
      · rename_i he
        have h1 : name.data.toList < s.data.toList := by
          rcases List.le_total s.data.toList name.data.toList with h2 | h2
          · by_cases h3 : name.data.toList ≤ s.data.toList
            · have := List.le_antisymm h2 h3
              rw [← ByteArray.toList_eq, ← ByteArray.toList_eq] at this
              exact absurd (beq_iff_eq.2 this) he
            · exact absurd ((less_iff _ _).2 (by simpa using h3)) hl
          · by_cases h3 : s.data.toList ≤ name.data.toList
            · have := List.le_antisymm h3 h2
              rw [← ByteArray.toList_eq, ← ByteArray.toList_eq] at this
              exact absurd (beq_iff_eq.2 this) he
            · simpa using h3
        unfold Tr.Asc
        rw [bn_cons, bn_cons, List.pairwise_cons, List.pairwise_cons]
        refine ⟨fun y hy => ?_, h⟩
        rcases List.mem_cons.1 hy with rfl | e
        · exact h1
        · exact List.lt_trans h1 (h.1 y e)
theorem makeT_asc (W : Nat) : ∀ (t : Tr) (l d : Nat) (acc : Tr), acc.Asc → (t.makeT W l d acc).Asc
  | .nil, _, _, _, h => by simpa [Tr.makeT] using h
  | .cons s k r, l, d, acc, h => by
    unfold Tr.makeT
    split
    · exact h
    · exact makeT_asc W r _ _ _ (withT_asc h)
theorem nil_asc : Tr.nil.Asc := List.Pairwise.nil
theorem withT_len_le {name : ByteArray} {x t : Tr} : (t.withT name x).len ≤ t.len + 1 := by
  have := withT_len name x t
  omega

theorem atIs_mem {name : ByteArray} : ∀ {t : Tr}, t.Asc → name.data.toList ∈ t.bn → t.atIs name = true
  | .nil, _, h => by simp [Tr.bn, Tr.names] at h
  | .cons s k r, ha, h => by
    unfold Tr.Asc at ha
    rw [bn_cons, List.pairwise_cons] at ha
    rw [bn_cons, List.mem_cons] at h
    unfold Tr.atIs
    by_cases hl : Op.bytesLess s.toList name.toList = true
    · have hlt := (less_iff _ _).1 hl
      simp only [Tr.atN]
      rw [if_pos hl]
      rcases h with e | h
      · rw [e] at hlt
        exact absurd hlt (List.lt_irrefl _)
      · exact atIs_mem (t := r) ha.2 h
    · simp only [Tr.atN]
      rw [if_neg hl]
      rcases h with e | h
      · have e2 : s = name := ByteArray.ext (Array.toList_inj.1 e.symm)
        subst e2
        rw [dropT_zero]
        simp [Tr.headIs]
      · exact absurd ((less_iff _ _).2 (ha.1 _ h)) hl

/-- Of a list in order: what compactUpTo keeps. -/
theorem upTo_facts (zs : List (List UInt8)) (h : zs.Pairwise (· ≤ ·)) : ∀ m, m ≤ zs.length →
    (Go.Lib.compactUpTo zs.toArray m).Pairwise (· < ·) ∧ (∀ x ∈ Go.Lib.compactUpTo zs.toArray m, ∃ j, j < m ∧ x = zs.toArray[j]!) ∧ ∀ j, j < m → zs.toArray[j]! ∈ Go.Lib.compactUpTo zs.toArray m := by
  have hle : ∀ i j, i ≤ j → j < zs.length → zs.toArray[i]! ≤ zs.toArray[j]! := by
    intro i j hij hj
    rw [getElem!_pos _ i (by simp; omega), getElem!_pos _ j (by simpa using hj)]
    simp only [List.getElem_toArray]
    rcases Nat.lt_or_ge i j with g | g
    · exact List.pairwise_iff_getElem.1 h i j (by omega) hj g
    · obtain rfl : i = j := by omega
      exact List.le_refl _
  intro m
  induction m with
  | zero => intro _; exact ⟨by simp [Go.Lib.compactUpTo], by simp [Go.Lib.compactUpTo], by intro j hj; omega⟩
  | succ m ih =>
    intro hm
    obtain ⟨h1, h2, h3⟩ := ih (by omega)
    rw [Go.Lib.compactUpTo_succ]
    by_cases hk : Go.Lib.keeps zs.toArray m = true
    · rw [if_pos hk]
      have hk' := of_decide_eq_true hk
      refine ⟨?_, ?_, ?_⟩
      · rw [List.pairwise_append]
        refine ⟨h1, List.pairwise_singleton _ _, fun x hx y hy => ?_⟩
        obtain ⟨j, hj, rfl⟩ := h2 x hx
        rw [List.mem_singleton] at hy
        subst hy
        rcases hk' with e | e
        · omega
        · have a1 := hle j (m - 1) (by omega) (by omega)
          have a2 := hle (m - 1) m (by omega) (by omega)
          refine List.lt_of_le_of_lt a1 ?_
          by_cases h4 : zs.toArray[m]! ≤ zs.toArray[m - 1]!
          · exact absurd (List.le_antisymm h4 a2) e
          · simpa using h4
      · intro x hx
        rw [List.mem_append, List.mem_singleton] at hx
        rcases hx with hx | rfl
        · obtain ⟨j, hj, e⟩ := h2 x hx
          exact ⟨j, by omega, e⟩
        · exact ⟨m, by omega, rfl⟩
      · intro j hj
        rw [List.mem_append, List.mem_singleton]
        by_cases e : j = m
        · right; rw [e]
        · left; exact h3 j (by omega)
    · rw [if_neg hk, List.append_nil]
      have hk' : ¬ (m = 0 ∨ zs.toArray[m]! ≠ zs.toArray[m - 1]!) := fun e => hk (decide_eq_true e)
      refine ⟨h1, fun x hx => ?_, fun j hj => ?_⟩
      · obtain ⟨j, hj, e⟩ := h2 x hx
        exact ⟨j, by omega, e⟩
      · by_cases e : j = m
        · subst e
          have e1 : zs.toArray[j]! = zs.toArray[j - 1]! := Classical.byContradiction fun h => hk' (.inr h)
          rw [e1]
          exact h3 (j - 1) (by omega)
        · exact h3 j (by omega)
theorem sorted_pair (ss : List (List UInt8)) : (sorted ss).Pairwise (· ≤ ·) :=
  (List.pairwise_mergeSort (le := fun x y => decide (x ≤ y)) (fun a b c h1 h2 => by simp only [decide_eq_true_eq] at *; exact List.le_trans h1 h2) (fun a b => by simp only [Bool.or_eq_true, decide_eq_true_eq]; exact List.le_total a b) ss).imp (fun h => of_decide_eq_true h)
theorem namesOf_pair (L : List ByteArray) : (namesOf L).Pairwise (· < ·) :=
  (upTo_facts _ (sorted_pair _) _ (Nat.le_refl _)).1
theorem namesOf_mem (L : List ByteArray) (x : List UInt8) : x ∈ namesOf L ↔ x ∈ L.map (·.data.toList) := by
  obtain ⟨_, h2, h3⟩ := upTo_facts _ (sorted_pair (L.map (·.data.toList))) _ (Nat.le_refl _)
  have hp : ∀ y, y ∈ sorted (L.map (·.data.toList)) ↔ y ∈ L.map (·.data.toList) := fun y => List.mem_mergeSort
  rw [← hp]
  constructor
  · intro hx
    obtain ⟨j, hj, rfl⟩ := h2 x hx
    rw [getElem!_pos _ j (by simpa using hj)]
    simp
  · intro hx
    obtain ⟨j, hj, rfl⟩ := List.getElem_of_mem hx
    have := h3 j hj
    rw [getElem!_pos _ j (by simpa using hj), List.getElem_toArray] at this
    exact this
theorem len_le {α : Type} [DecidableEq α] : ∀ (l m : List α), l.Nodup → (∀ x ∈ l, x ∈ m) → l.length ≤ m.length
  | [], m, _, _ => Nat.zero_le _
  | a :: l, m, hd, hs => by
    rw [List.nodup_cons] at hd
    have ha := hs a List.mem_cons_self
    have := len_le l (m.erase a) hd.2 (fun x hx => (List.mem_erase_of_ne (fun e => hd.1 (by rw [← e]; exact hx))).2 (hs x (List.mem_cons_of_mem _ hx)))
    rw [List.length_erase_of_mem ha] at this
    have : 0 < m.length := List.length_pos_of_mem ha
    simp only [List.length_cons]
    omega
theorem asc_nodup {l : List (List UInt8)} (h : l.Pairwise (· < ·)) : l.Nodup :=
  h.imp (fun h e => by rw [e] at h; exact List.lt_irrefl _ h)
/-- Two lists in order with the same members are one. -/
theorem asc_eq : ∀ {l m : List (List UInt8)}, l.Pairwise (· < ·) → m.Pairwise (· < ·) → (∀ x, x ∈ l ↔ x ∈ m) → l = m
  | [], [], _, _, _ => rfl
  | [], b :: m, _, _, h => by have := (h b).2 List.mem_cons_self; simp at this
  | a :: l, [], _, _, h => by have := (h a).1 List.mem_cons_self; simp at this
  | a :: l, b :: m, hl, hm, h => by
    rw [List.pairwise_cons] at hl hm
    have e : a = b := by
      have h1 := (h a).1 List.mem_cons_self
      have h2 := (h b).2 List.mem_cons_self
      rw [List.mem_cons] at h1 h2
      rcases h1 with e | h1
      · exact e
      · rcases h2 with e | h2
        · exact e.symm
        · exact absurd (List.lt_trans (hl.1 b h2) (hm.1 a h1)) (List.lt_irrefl _)
    subst e
    rw [asc_eq hl.2 hm.2 (fun x => ?_)]
    have := h x
    rw [List.mem_cons, List.mem_cons] at this
    constructor
    · intro hx
      rcases this.1 (.inr hx) with e | e
      · subst e; exact absurd (hl.1 _ hx) (List.lt_irrefl _)
      · exact e
    · intro hx
      rcases this.2 (.inr hx) with e | e
      · subst e; exact absurd (hm.1 _ hx) (List.lt_irrefl _)
      · exact e
theorem namesOf_asc {t : Tr} (h : t.Asc) : namesOf t.names = t.bn := asc_eq (namesOf_pair _) h (fun x => namesOf_mem _ x)
theorem namesOf_ge (L : List ByteArray) {t : Tr} (h : t.Asc) (hs : ∀ x ∈ t.bn, x ∈ L.map (·.data.toList)) : t.len ≤ (namesOf L).length := by
  rw [← bn_length]
  exact len_le _ _ (asc_nodup h) (fun x hx => (namesOf_mem L x).2 (hs x hx))
theorem namesOf_le (L : List ByteArray) : (namesOf L).length ≤ L.length := by
  have := once_le (sorted (L.map (·.data.toList)))
  rw [sorted_length, List.length_map] at this
  exact this
end Go.Proofs.YtgefoehpdiiomaaGreatDoor
namespace Go.Proofs.YtgefoehpdiiomaaGreatDoor
open Go.RowKit
set_option maxRecDepth 100000

theorem asc_at {name : ByteArray} : ∀ {t : Tr} {k : Nat} {s : ByteArray}, t.Asc → t.names[k]? = some s → (Op.bytesLess s.toList name.toList = true ↔ k < t.atN name)
  | .nil, _, _, _, h => by simp [Tr.names] at h
  | .cons s0 k0 r, 0, s, ha, h => by
    simp only [Tr.names, List.getElem?_cons_zero, Option.some.injEq] at h
    subst h
    simp only [Tr.atN]
    split
    · rename_i hl; simp [hl]
    · rename_i hl; simp [hl]
  | .cons s0 k0 r, k + 1, s, ha, h => by
    simp only [Tr.names, List.getElem?_cons_succ] at h
    have ha' := ha
    unfold Tr.Asc at ha'
    rw [bn_cons, List.pairwise_cons] at ha'
    simp only [Tr.atN]
    split
    · rw [asc_at (t := r) ha'.2 h]
      omega
    · rename_i hl
      constructor
      · intro hs
        have hm : s.data.toList ∈ r.bn := List.mem_map.2 ⟨s, List.mem_of_getElem? h, rfl⟩
        exact absurd ((less_iff _ _).2 (List.lt_trans (ha'.1 _ hm) ((less_iff _ _).1 hs))) hl
      · intro hs; omega
theorem asc_eqn {name : ByteArray} : ∀ {t : Tr} {k : Nat}, t.Asc → t.names[k]? = some name → k = t.atN name
  | .nil, _, _, h => by simp [Tr.names] at h
  | .cons s0 k0 r, 0, ha, h => by
    simp only [Tr.names, List.getElem?_cons_zero, Option.some.injEq] at h
    subst h
    simp only [Tr.atN]
    rw [if_neg (fun e => List.lt_irrefl _ ((less_iff _ _).1 e))]
  | .cons s0 k0 r, k + 1, ha, h => by
    simp only [Tr.names, List.getElem?_cons_succ] at h
    unfold Tr.Asc at ha
    rw [bn_cons, List.pairwise_cons] at ha
    have hm : name.data.toList ∈ r.bn := List.mem_map.2 ⟨name, List.mem_of_getElem? h, rfl⟩
    simp only [Tr.atN]
    rw [if_pos ((less_iff _ _).2 (ha.1 _ hm)), asc_eqn (t := r) ha.2 h]
theorem at_there {name : ByteArray} : ∀ {t : Tr} {k : Nat} {s : ByteArray}, t.names[k]? = some s → k = t.atN name → t.atIs name = (s.toList == name.toList)
  | .nil, _, _, h, _ => by simp [Tr.names] at h
  | .cons s0 k0 r, k, s, h, hk => by
    unfold Tr.atIs
    simp only [Tr.atN] at hk ⊢
    split at hk
    · rename_i hl
      subst hk
      rw [if_pos hl]
      simp only [Tr.names, List.getElem?_cons_succ] at h
      exact at_there (t := r) h rfl
    · rename_i hl
      subst hk
      rw [if_neg hl]
      simp only [Tr.names, List.getElem?_cons_zero, Option.some.injEq] at h
      subst h
      rw [dropT_zero]
      rfl
theorem drop_names {t r kt : Tr} {k : Nat} {s : ByteArray} (hd : t.dropT k = .cons s kt r) : t.names[k]? = some s := by
  have h1 := names_drop t k
  rw [hd] at h1
  have := congrArg (·[0]?) h1
  simp [Tr.names] at this
  exact this.symm

set_option maxHeartbeats 2000000 in
theorem find_any (t : Tr) (ha : t.Asc) (A : Option Addr) (n c B : Nat) (name : ByteArray) (w : World) (h : Holds w B A n t) (hB : B ≤ w.heap.size) (hn : n ≤ 140737488351232) :
    Calls Tryz.prog 106 #[.slice A n c, .string name] w fun e w' => e = .returned (.tuple #[.int .i64 (t.atN name : Nat), .bool (t.atIs name)]) ∧ Below B w w' := by
  have Hn := Lib.hid h.len
  have hle := atN_le name t
  rw [← Hn.out] at hle
  have Hlt := Lib.hid (fun e => atIs_lt (name := name) (t := t) e)
  obtain ⟨p, hp⟩ : ∃ p, p = t.atN name := ⟨_, rfl⟩
  obtain ⟨v, hv⟩ : ∃ v, v = t.atIs name := ⟨_, rfl⟩
  have Hat := Lib.hid (fun (k : Nat) (s : ByteArray) (h : t.names[k]? = some s) => asc_at (name := name) ha h)
  have Hth := Lib.hid (fun (k : Nat) (s : ByteArray) (h : t.names[k]? = some s) => at_there (name := name) (k := k) h)
  have Heq := Lib.hid (fun (k : Nat) (h : t.names[k]? = some name) => asc_eqn (name := name) ha h)
  rw [← hp] at hle Hlt Hat Hth Heq ⊢
  rw [← hv] at Hlt Hth ⊢
  clear hp hv
  go_enter Tryz.func106, Tryz.ntmps106
  go_wp2_with fail
  go_loopw [6, 13] (fun a i wr => ∃ (k at' : Nat), k ≤ n ∧ i = .int .i64 k ∧ a = .int .i64 at' ∧ Hid (k ≤ p → at' = n) ∧ Hid (p < k → at' = p ∧ v = false) ∧ Below B w wr) (fun _ i _ => n - (intOf i).toNat)
  case atStart => exact ⟨0, n, Nat.zero_le _, rfl, rfl, Lib.hid (fun _ => rfl), Lib.hid (fun h => by omega), Below.refl _ _⟩
  case round =>
    obtain ⟨k, q, hk, rfl, rfl, H1, H2, hbw⟩ := hrel
    by_cases hlt : k < n
    · obtain ⟨b, o, s, kt, r, A', n', c', rfl, hb, hs, hc, hn', hc', hk', hr, hd, hd2⟩ := (h.below hbw).split k hlt
      have hnm := drop_names hd
      have hkn : (k : Int) < (n : Int) := by omega
      have hk0 : (0 : Int) ≤ (k : Int) := by omega
      have hat := Hat.out k s hnm
      have hth := Hth.out k s hnm
      have HkN := Lib.hid hlt
      have hsz := hbw.size
      have hbr := hbw.alloc (Nat.le_trans hB hsz) (Obj.cells #[Value.string s, Value.slice A' n' c'] 59)
      by_cases he : s.toList = name.toList
      · have hs0 := bytes_eq he
        subst hs0
        have hkp := Heq.out k hnm
        subst hkp
        have hv := hth rfl
        rw [beq_self_eq_true] at hv
        subst hv
        clear hat hth hd hd2 hnm H1 H2 hlt
        have he2 : (s.toList == s.toList) = true := by simp
        go_wp2_with fail
        go_ret2
        exact ⟨rfl, hbr⟩
      · have he2 : (s.toList == name.toList) = false := by simpa using he
        cases hl : Op.bytesLess s.toList name.toList with
        | true =>
          have hkp := hat.1 hl
          have hq := H1.out (by omega)
          subst hq
          have Hkp := Lib.hid hkp
          clear hat hth hd hd2 hnm H1 H2 hlt hkp he
          go_wp2_with fail
          go_roundw
          case rel => exact ⟨k + 1, q, by have := HkN.out; omega, by go_num, rfl, Lib.hid (fun _ => rfl), Lib.hid (fun g => by have := Hkp.out; omega), hbr⟩
          case measure => have := HkN.out; simp [intOf]; omega
        | false =>
          have hpk : p ≤ k := by
            rcases Nat.lt_or_ge k p with g | g
            · rw [hat.2 g] at hl; cases hl
            · exact g
          rcases Nat.lt_or_ge p k with g | g
          · obtain ⟨rfl, hv⟩ := H2.out g
            have Hv := Lib.hid hv
            have hmin : ((k : Int) < (q : Int)) = False := by simp; omega
            have hmin2 : ¬ ((k : Int) < (q : Int)) := by omega
            have hmin3 : ¬ (k < q) := by omega
            have Hg := Lib.hid g
            clear hat hth hd hd2 hnm H1 H2 hlt he hv hpk g
            go_wp2_with fail
            go_roundw
            case rel => exact ⟨k + 1, q, by have := HkN.out; omega, by go_num, by go_num, Lib.hid (fun g2 => by have := Hg.out; omega), Lib.hid (fun _ => ⟨rfl, Hv.out⟩), hbr⟩
            case measure => have := HkN.out; simp [intOf]; omega
          · obtain rfl : k = p := by omega
            obtain rfl := H1.out (Nat.le_refl _)
            have hv := hth rfl
            rw [he2] at hv
            have Hv := Lib.hid hv
            have hmin2 : ((k : Int) < (q : Int)) := hkn
            have hmin3 : k < q := by omega
            clear hat hth hd hd2 hnm H1 H2 he hv hpk g
            go_wp2_with fail
            go_roundw
            case rel => exact ⟨k + 1, k, by have := HkN.out; omega, by go_num, by go_num, Lib.hid (fun g2 => by omega), Lib.hid (fun _ => ⟨rfl, Hv.out⟩), hbr⟩
            case measure => have := HkN.out; simp [intOf]; omega
    · obtain rfl : k = n := by omega
      have hvp : q = p ∧ v = false := by
        rcases Nat.lt_or_ge p k with g | g
        · exact H2.out g
        · have hq := H1.out g
          refine ⟨by omega, ?_⟩
          cases v with
          | false => rfl
          | true => have := Hlt.out rfl; rw [← Hn.out] at this; omega
      obtain ⟨rfl, rfl⟩ := hvp
      have hkk : ¬ ((k : Int) < (k : Int)) := by omega
      clear H1 H2 hlt
      go_wp2_with fail
      go_ret2
      exact ⟨rfl, hbw⟩
end Go.Proofs.YtgefoehpdiiomaaGreatDoor
namespace Go.Proofs.YtgefoehpdiiomaaGreatDoor.Pt
open Go.RowKit Go.Proofs.YtgefoehpdiiomaaGreatDoor.Jd Go.Proofs.YtgefoehpdiiomaaGreatDoor.Cl
set_option maxRecDepth 100000

/-- Below a name: what is there, or nothing. -/
def kidT : Tr → ByteArray → Tr
  | .nil, _ => .nil
  | .cons s k r, name => if Op.bytesLess s.toList name.toList = true then kidT r name else if (s.toList == name.toList) = true then k else .nil
def putT : Tr → List ByteArray → Tr → Tr
  | _, [], x => x
  | t, p :: ps, x => t.withT p (putT (kidT t p) ps x)
def withoutT : Tr → ByteArray → Tr
  | .nil, _ => .nil
  | .cons s k r, name => if Op.bytesLess s.toList name.toList = true then .cons s k (withoutT r name) else if (s.toList == name.toList) = true then r else .cons s k r
def dropP : Tr → List ByteArray → Tr
  | _, [] => .nil
  | t, [p] => if t.atIs p = true then withoutT t p else t
  | t, p :: q :: ps => if t.atIs p = true then t.withT p (dropP (kidT t p) (q :: ps)) else t
def getT : Tr → List ByteArray → Tr × Bool
  | t, [] => (t, true)
  | t, p :: ps => if t.atIs p = true then getT (kidT t p) ps else (.nil, false)
/-- In order at each level. -/
def AscD : Tr → Prop
  | .nil => True
  | .cons s k r => (Tr.cons s k r).Asc ∧ AscD k ∧ AscD r
theorem AscD.asc : ∀ {t : Tr}, AscD t → t.Asc
  | .nil, _ => nil_asc
  | .cons _ _ _, h => h.1

section
variable {s name : ByteArray} {k r x y : Tr}
theorem kidT_lt (h : Op.bytesLess s.toList name.toList = true) : kidT (.cons s k r) name = kidT r name := by simp [kidT, h]
theorem kidT_eq (h : Op.bytesLess s.toList name.toList = false) (h2 : (s.toList == name.toList) = true) : kidT (.cons s k r) name = k := by simp only [kidT, h, h2]; simp
theorem kidT_gt (h : Op.bytesLess s.toList name.toList = false) (h2 : (s.toList == name.toList) = false) : kidT (.cons s k r) name = .nil := by simp only [kidT, h, h2]; simp
theorem withT_lt (h : Op.bytesLess s.toList name.toList = true) : (Tr.cons s k r).withT name x = .cons s k (r.withT name x) := by simp [Tr.withT, h]
theorem withT_eq (h : Op.bytesLess s.toList name.toList = false) (h2 : (s.toList == name.toList) = true) : (Tr.cons s k r).withT name x = .cons name x r := by simp only [Tr.withT, h, h2]; simp
theorem withT_gt (h : Op.bytesLess s.toList name.toList = false) (h2 : (s.toList == name.toList) = false) : (Tr.cons s k r).withT name x = .cons name x (.cons s k r) := by simp only [Tr.withT, h, h2]; simp
theorem atN_lt (h : Op.bytesLess s.toList name.toList = true) : (Tr.cons s k r).atN name = r.atN name + 1 := by simp [Tr.atN, h]
theorem atN_ge (h : Op.bytesLess s.toList name.toList = false) : (Tr.cons s k r).atN name = 0 := by simp [Tr.atN, h]
theorem atIs_lt (h : Op.bytesLess s.toList name.toList = true) : (Tr.cons s k r).atIs name = r.atIs name := by unfold Tr.atIs; rw [atN_lt h]; rfl
theorem atIs_ge (h : Op.bytesLess s.toList name.toList = false) : (Tr.cons s k r).atIs name = (s.toList == name.toList) := by unfold Tr.atIs; rw [atN_ge h]; rfl
theorem withoutT_lt (h : Op.bytesLess s.toList name.toList = true) : withoutT (.cons s k r) name = .cons s k (withoutT r name) := by simp [withoutT, h]
theorem withoutT_eq (h : Op.bytesLess s.toList name.toList = false) (h2 : (s.toList == name.toList) = true) : withoutT (.cons s k r) name = r := by simp only [withoutT, h, h2]; simp
theorem withoutT_gt (h : Op.bytesLess s.toList name.toList = false) (h2 : (s.toList == name.toList) = false) : withoutT (.cons s k r) name = .cons s k r := by simp only [withoutT, h, h2]; simp
end
/-- Names held against each other. -/
theorem cases3 (s name : ByteArray) : Op.bytesLess s.toList name.toList = true ∨ (Op.bytesLess s.toList name.toList = false ∧ (s.toList == name.toList) = true) ∨ (Op.bytesLess s.toList name.toList = false ∧ (s.toList == name.toList) = false ∧ Op.bytesLess name.toList s.toList = true) := by
  cases h : Op.bytesLess s.toList name.toList with
  | true => exact .inl rfl
  | false =>
    right
    cases h2 : (s.toList == name.toList) with
    | true => exact .inl ⟨rfl, rfl⟩
    | false =>
      refine .inr ⟨rfl, rfl, ?_⟩
      rcases not_lt h with h3 | ⟨_, h3⟩
      · exact h3
      · have := beq_iff_eq.1 h3
        rw [this, beq_self_eq_true] at h2
        cases h2
theorem names_of_eq {s name : ByteArray} (h : (s.toList == name.toList) = true) : s = name := bytes_eq (beq_iff_eq.1 h)
theorem self_not_lt (s : ByteArray) : Op.bytesLess s.toList s.toList = false := by
  cases h : Op.bytesLess s.toList s.toList with
  | false => rfl
  | true => exact absurd ((less_iff _ _).1 h) (List.lt_irrefl _)
theorem self_eq (s : ByteArray) : (s.toList == s.toList) = true := beq_self_eq_true _

theorem kidT_not : ∀ {t : Tr} {name : ByteArray}, t.atIs name = false → kidT t name = .nil
  | .nil, _, _ => rfl
  | .cons s k r, name, h => by
    rcases cases3 s name with h1 | ⟨h1, h2⟩ | ⟨h1, h2, _⟩
    · rw [kidT_lt h1]; exact kidT_not (by rw [← h, atIs_lt h1])
    · rw [atIs_ge h1, h2] at h; cases h
    · exact kidT_gt h1 h2
theorem kidT_size : ∀ (t : Tr) (name : ByteArray), (kidT t name).size ≤ t.size
  | .nil, _ => Nat.le_refl _
  | .cons s k r, name => by
    simp only [Tr.size]
    rcases cases3 s name with h1 | ⟨h1, h2⟩ | ⟨h1, h2, _⟩
    · rw [kidT_lt h1]; have := kidT_size r name; omega
    · rw [kidT_eq h1 h2]; omega
    · rw [kidT_gt h1 h2]; simp [Tr.size]
theorem kidT_asc : ∀ {t : Tr} {name : ByteArray}, AscD t → AscD (kidT t name)
  | .nil, _, _ => trivial
  | .cons s k r, name, ⟨_, h2, h3⟩ => by
    rcases cases3 s name with h1 | ⟨h1, h2'⟩ | ⟨h1, h2', _⟩
    · rw [kidT_lt h1]; exact kidT_asc h3
    · rw [kidT_eq h1 h2']; exact h2
    · rw [kidT_gt h1 h2']; trivial
theorem withT_ascD {name : ByteArray} {x : Tr} (hx : AscD x) : ∀ {t : Tr}, AscD t → AscD (t.withT name x)
  | .nil, _ => ⟨by have := withT_asc (name := name) (x := x) nil_asc; exact this, hx, trivial⟩
  | .cons s k r, ⟨h1, h2, h3⟩ => by
    have ha := withT_asc (name := name) (x := x) h1
    rcases cases3 s name with c1 | ⟨c1, c2⟩ | ⟨c1, c2, _⟩
    · rw [withT_lt c1] at ha ⊢; exact ⟨ha, h2, withT_ascD hx h3⟩
    · rw [withT_eq c1 c2] at ha ⊢; exact ⟨ha, hx, h3⟩
    · rw [withT_gt c1 c2] at ha ⊢; exact ⟨ha, hx, h1, h2, h3⟩
theorem putT_ascD {x : Tr} (hx : AscD x) : ∀ {ps : List ByteArray} {t : Tr}, AscD t → AscD (putT t ps x)
  | [], _, _ => hx
  | _ :: _, _, h => withT_ascD (putT_ascD hx (kidT_asc h)) h
theorem withoutT_mem {name : ByteArray} {y : List UInt8} : ∀ {t : Tr}, y ∈ (withoutT t name).bn → y ∈ t.bn
  | .nil, h => h
  | .cons s k r, h => by
    rcases cases3 s name with c1 | ⟨c1, c2⟩ | ⟨c1, c2, _⟩
    · rw [withoutT_lt c1, bn_cons, List.mem_cons] at h
      rw [bn_cons, List.mem_cons]
      exact h.imp id withoutT_mem
    · rw [withoutT_eq c1 c2] at h
      rw [bn_cons, List.mem_cons]
      exact .inr h
    · rw [withoutT_gt c1 c2] at h; exact h
theorem withoutT_ascD {name : ByteArray} : ∀ {t : Tr}, AscD t → AscD (withoutT t name)
  | .nil, _ => trivial
  | .cons s k r, ⟨h1, h2, h3⟩ => by
    rcases cases3 s name with c1 | ⟨c1, c2⟩ | ⟨c1, c2, _⟩
    · rw [withoutT_lt c1]
      refine ⟨?_, h2, withoutT_ascD h3⟩
      unfold Tr.Asc at h1 ⊢
      rw [bn_cons, List.pairwise_cons] at h1 ⊢
      exact ⟨fun y hy => h1.1 y (withoutT_mem hy), (withoutT_ascD h3).asc⟩
    · rw [withoutT_eq c1 c2]; exact h3
    · rw [withoutT_gt c1 c2]; exact ⟨h1, h2, h3⟩
theorem dropP_ascD : ∀ {ps : List ByteArray} {t : Tr}, AscD t → AscD (dropP t ps)
  | [], _, _ => trivial
  | [p], t, h => by
    unfold dropP
    split
    · exact withoutT_ascD h
    · exact h
  | p :: q :: ps, t, h => by
    unfold dropP
    split
    · exact withT_ascD (dropP_ascD (kidT_asc h)) h
    · exact h

/-! What is put at a name is found there; nothing else is another one. -/
theorem with_is {name : ByteArray} {x : Tr} : ∀ {t : Tr}, (t.withT name x).atIs name = true ∧ kidT (t.withT name x) name = x
  | .nil => by
    show (Tr.cons name x .nil).atIs name = true ∧ kidT (.cons name x .nil) name = x
    rw [atIs_ge (self_not_lt name), kidT_eq (self_not_lt name) (self_eq name)]
    exact ⟨self_eq name, rfl⟩
  | .cons s k r => by
    rcases cases3 s name with c1 | ⟨c1, c2⟩ | ⟨c1, c2, _⟩
    · rw [withT_lt c1, atIs_lt c1, kidT_lt c1]; exact with_is
    · rw [withT_eq c1 c2, atIs_ge (self_not_lt name), kidT_eq (self_not_lt name) (self_eq name)]; exact ⟨self_eq name, rfl⟩
    · rw [withT_gt c1 c2, atIs_ge (self_not_lt name), kidT_eq (self_not_lt name) (self_eq name)]; exact ⟨self_eq name, rfl⟩
theorem lt_trans' {a b c : ByteArray} (h : Op.bytesLess a.toList b.toList = true) (k : Op.bytesLess b.toList c.toList = true) : Op.bytesLess a.toList c.toList = true :=
  (less_iff _ _).2 (List.lt_trans ((less_iff _ _).1 h) ((less_iff _ _).1 k))
theorem with_other {name q : ByteArray} {x : Tr} (hne : (name.toList == q.toList) = false) : ∀ {t : Tr}, t.Asc → (t.withT name x).atIs q = t.atIs q ∧ kidT (t.withT name x) q = kidT t q
  | .nil, _ => by
    show (Tr.cons name x .nil).atIs q = _ ∧ kidT (.cons name x .nil) q = _
    rcases cases3 name q with c1 | ⟨c1, c2⟩ | ⟨c1, c2, _⟩
    · rw [atIs_lt c1, kidT_lt c1]; exact ⟨rfl, rfl⟩
    · rw [c2] at hne; cases hne
    · rw [atIs_ge c1, kidT_gt c1 c2, c2]; exact ⟨rfl, rfl⟩
  | .cons s k r, ha => by
    have ha' := ha
    unfold Tr.Asc at ha'
    rw [bn_cons, List.pairwise_cons] at ha'
    rcases cases3 s name with c1 | ⟨c1, c2⟩ | ⟨c1, c2, c3⟩
    · rw [withT_lt c1]
      rcases cases3 s q with d1 | ⟨d1, d2⟩ | ⟨d1, d2, _⟩
      · rw [atIs_lt d1, atIs_lt d1, kidT_lt d1, kidT_lt d1]; exact with_other hne (t := r) ha'.2
      · rw [atIs_ge d1, atIs_ge d1, kidT_eq d1 d2, kidT_eq d1 d2]; exact ⟨rfl, rfl⟩
      · rw [atIs_ge d1, atIs_ge d1, kidT_gt d1 d2, kidT_gt d1 d2]; exact ⟨rfl, rfl⟩
    · have e := names_of_eq c2
      subst e
      rw [withT_eq c1 c2]
      rcases cases3 s q with d1 | ⟨d1, d2⟩ | ⟨d1, d2, _⟩
      · rw [atIs_lt d1, atIs_lt d1, kidT_lt d1, kidT_lt d1]; exact ⟨rfl, rfl⟩
      · rw [d2] at hne; cases hne
      · rw [atIs_ge d1, atIs_ge d1, kidT_gt d1 d2, kidT_gt d1 d2]; exact ⟨rfl, rfl⟩
    · rw [withT_gt c1 c2]
      rcases cases3 name q with d1 | ⟨d1, d2⟩ | ⟨d1, d2, d3⟩
      · rw [atIs_lt d1, kidT_lt d1]; exact ⟨rfl, rfl⟩
      · rw [d2] at hne; cases hne
      · have d4 := lt_trans' d3 c3
        obtain ⟨d5, d6⟩ := lt_not d4
        rw [atIs_ge d1, kidT_gt d1 d2, d2, atIs_ge d5, d6, kidT_gt d5 d6]; exact ⟨rfl, rfl⟩
theorem get_put {x : Tr} : ∀ (ps : List ByteArray) (t : Tr), getT (putT t ps x) ps = (x, true)
  | [], _ => rfl
  | p :: ps, t => by
    rw [putT, getT, if_pos with_is.1, with_is.2]
    exact get_put ps _
theorem get_apart {x : Tr} {p q : ByteArray} {ps qs : List ByteArray} {t : Tr} (ha : t.Asc) (hne : (p.toList == q.toList) = false) : getT (putT t (p :: ps) x) (q :: qs) = getT t (q :: qs) := by
  obtain ⟨h1, h2⟩ := with_other (x := putT (kidT t p) ps x) hne ha
  rw [putT, getT, getT, h1, h2]
theorem with_with {name : ByteArray} {x y : Tr} : ∀ {t : Tr}, (t.withT name x).withT name y = t.withT name y
  | .nil => by
    show (Tr.cons name x .nil).withT name y = Tr.cons name y .nil
    rw [withT_eq (self_not_lt name) (self_eq name)]
  | .cons s k r => by
    rcases cases3 s name with c1 | ⟨c1, c2⟩ | ⟨c1, c2, _⟩
    · rw [withT_lt c1, withT_lt c1, withT_lt c1, with_with]
    · rw [withT_eq c1 c2, withT_eq c1 c2, withT_eq (self_not_lt name) (self_eq name)]
    · rw [withT_gt c1 c2, withT_gt c1 c2, withT_eq (self_not_lt name) (self_eq name)]
/-- Without what was just put. -/
theorem without_with {name : ByteArray} {x : Tr} : ∀ {t : Tr}, t.Asc → (withoutT (t.withT name x) name).atIs name = false ∧ (withoutT (t.withT name x) name).withT name x = t.withT name x
  | .nil, _ => by
    show (withoutT (Tr.cons name x .nil) name).atIs name = false ∧ (withoutT (Tr.cons name x .nil) name).withT name x = Tr.cons name x .nil
    rw [withoutT_eq (self_not_lt name) (self_eq name)]
    exact ⟨rfl, rfl⟩
  | .cons s k r, ha => by
    have ha' := ha
    unfold Tr.Asc at ha'
    rw [bn_cons, List.pairwise_cons] at ha'
    -- what stands behind is behind the name
    have hb : ∀ (r : Tr), (∀ y ∈ r.bn, name.data.toList < y) → r.atIs name = false ∧ r.withT name x = .cons name x r := by
      intro r hr
      cases r with
      | nil => exact ⟨rfl, rfl⟩
      | cons s2 k2 r2 =>
        have h1 := (less_iff name s2).2 (hr s2.data.toList (by rw [bn_cons]; exact List.mem_cons_self))
        obtain ⟨h2, h3⟩ := lt_not h1
        rw [atIs_ge h2, h3, withT_gt h2 h3]
        exact ⟨rfl, rfl⟩
    rcases cases3 s name with c1 | ⟨c1, c2⟩ | ⟨c1, c2, c3⟩
    · obtain ⟨h1, h2⟩ := without_with (name := name) (x := x) (t := r) ha'.2
      rw [withT_lt c1, withoutT_lt c1, atIs_lt c1, withT_lt c1, h2]
      exact ⟨h1, rfl⟩
    · have e := names_of_eq c2
      subst e
      rw [withT_eq c1 c2, withoutT_eq c1 c2]
      exact hb r ha'.1
    · rw [withT_gt c1 c2, withoutT_eq (self_not_lt name) (self_eq name)]
      refine hb _ fun y hy => ?_
      rw [bn_cons, List.mem_cons] at hy
      rcases hy with rfl | hy
      · exact (less_iff _ _).1 c3
      · exact List.lt_trans ((less_iff _ _).1 c3) (ha'.1 y hy)
theorem drop_put {x : Tr} : ∀ (ps : List ByteArray) (t : Tr), ps ≠ [] → AscD t → (getT (dropP (putT t ps x) ps) ps).2 = false ∧ putT (dropP (putT t ps x) ps) ps x = putT t ps x ∧ dropP (dropP (putT t ps x) ps) ps = dropP (putT t ps x) ps
  | [], _, h, _ => absurd rfl h
  | [p], t, _, ha => by
    obtain ⟨h1, h2⟩ := without_with (name := p) (x := x) ha.asc
    have e : dropP (putT t [p] x) [p] = withoutT (t.withT p x) p := by
      rw [show putT t [p] x = t.withT p x from rfl, dropP, if_pos with_is.1]
    rw [e]
    refine ⟨?_, ?_, ?_⟩
    · rw [getT, if_neg (by rw [h1]; simp)]
    · rw [show putT (withoutT (t.withT p x) p) [p] x = (withoutT (t.withT p x) p).withT p x from rfl, h2]
      rfl
    · rw [dropP, if_neg (by rw [h1]; simp)]
  | p :: q :: ps, t, _, ha => by
    obtain ⟨h1, h2, h3⟩ := drop_put (x := x) (q :: ps) (kidT t p) (by simp) (kidT_asc ha)
    have e : dropP (putT t (p :: q :: ps) x) (p :: q :: ps) = t.withT p (dropP (putT (kidT t p) (q :: ps) x) (q :: ps)) := by
      rw [putT, dropP, if_pos with_is.1, with_is.2, with_with]
    rw [e]
    refine ⟨?_, ?_, ?_⟩
    · rw [getT, if_pos with_is.1, with_is.2]; exact h1
    · rw [putT, with_is.2, with_with, h2, ← putT]
    · rw [dropP, if_pos with_is.1, with_is.2, with_with, h3]
end Go.Proofs.YtgefoehpdiiomaaGreatDoor.Pt
namespace Go.Proofs.YtgefoehpdiiomaaGreatDoor.Cv
open Go.RowKit Go.Sort Go.Proofs.YtgefoehpdiiomaaGreatDoor.Jd Go.Proofs.YtgefoehpdiiomaaGreatDoor.Li Go.Proofs.YtgefoehpdiiomaaGreatDoor.Cl Go.Proofs.YtgefoehpdiiomaaGreatDoor.Pt
set_option maxRecDepth 100000

/-- The edges, as pairs. -/
def eds : Tr → List (ByteArray × Tr)
  | .nil => []
  | .cons s k r => (s, k) :: eds r
theorem eds_inj : ∀ {t u : Tr}, eds t = eds u → t = u
  | .nil, .nil, _ => rfl
  | .nil, .cons _ _ _, h => by cases h
  | .cons _ _ _, .nil, h => by cases h
  | .cons s k r, .cons s' k' r', h => by
    injection h with h1 h2
    injection h1 with h3 h4
    rw [h3, h4, eds_inj h2]
theorem eds_bn : ∀ t : Tr, t.bn = (eds t).map (·.1.data.toList)
  | .nil => rfl
  | .cons s k r => by rw [bn_cons, eds_bn r]; rfl
theorem eds_ofI (t : Tr) : ∀ is : List Nat, eds (ofI t is) = is.map fun i => (nmE t i, kdE t i)
  | [] => rfl
  | i :: r => by rw [ofI, eds, eds_ofI t r]; rfl
theorem eds_all : ∀ t : Tr, eds t = (List.range t.len).map fun i => (nmE t i, kdE t i)
  | .nil => rfl
  | .cons s k r => by
    rw [eds, Tr.len, List.range_succ_eq_map, List.map_cons, List.map_map, eds_all r]
    rfl
theorem srt_perm (t : Tr) : (eds (srtE t)).Perm (eds t) := by
  rw [srtE, eds_ofI, eds_all t]
  exact (pdq_mem t).2.1.map _
theorem cmp_lt (a b : List UInt8) : Lib.compareBytes a b < 0 ↔ a < b := by
  induction a generalizing b with
  | nil => cases b <;> simp [Lib.compareBytes]
  | cons x u ih =>
    cases b with
    | nil => simp [Lib.compareBytes]
    | cons y v =>
      rw [Lib.compareBytes, List.cons_lt_cons_iff]
      have hxy : x < y ↔ x.toNat < y.toNat := Iff.rfl
      have hyx : y < x ↔ y.toNat < x.toNat := Iff.rfl
      by_cases h1 : x < y
      · simp [h1]
      · rw [if_neg h1]
        by_cases h2 : y < x
        · rw [if_pos h2]
          constructor
          · intro h; omega
          · rintro (h | ⟨h, _⟩)
            · exact absurd h h1
            · subst h; exact absurd h2 h1
        · rw [if_neg h2]
          have e : x = y := UInt8.toNat_inj.1 (by have := mt hxy.2 h1; have := mt hyx.2 h2; omega)
          rw [ih]
          simp [e]
theorem srt_asc {t : Tr} (h : t.bn.Nodup) : (srtE t).Asc := by
  obtain ⟨p1, p2, p3⟩ := pdq_mem t
  have hb : (srtE t).bn = (pdq (ltOf (cfE t)) (Array.range t.len) 0 t.len (Lib.bitLen t.len) true true).toList.map fun i => (nmE t i).data.toList := by
    rw [eds_bn, srtE, eds_ofI, List.map_map]; rfl
  have hn : (srtE t).bn.Nodup := by
    rw [eds_bn]
    rw [eds_bn] at h
    exact ((srt_perm t).map _).nodup_iff.2 h
  unfold Tr.Asc
  rw [List.pairwise_iff_getElem]
  intro i j hi hj hij
  have hl : (srtE t).bn.length = t.len := by rw [hb, List.length_map, Array.length_toList, p1]
  have hne : (srtE t).bn[i] ≠ (srtE t).bn[j] := fun e => by
    have := (List.pairwise_iff_getElem.1 hn) i j hi hj hij
    exact this e
  have hs := p3 i j (Nat.zero_le _) hij (by omega)
  rw [ltE] at hs
  have hs := of_decide_eq_false hs
  generalize hD : pdq (ltOf (cfE t)) (Array.range t.len) 0 t.len (Lib.bitLen t.len) true true = D at hs hb p1
  have gi : (srtE t).bn[i] = (nmE t D[i]!).data.toList := by
    simp only [hb, List.getElem_map, Array.getElem_toList]
    rw [getElem!_pos D i (by omega)]
  have gj : (srtE t).bn[j] = (nmE t D[j]!).data.toList := by
    simp only [hb, List.getElem_map, Array.getElem_toList]
    rw [getElem!_pos D j (by omega)]
  rw [← gi, ← gj] at hs
  rcases cmpB_lt (srtE t).bn[i] (srtE t).bn[j] with h1 | ⟨_, h1⟩ | h1
  · exact (cmp_lt _ _).1 h1
  · exact absurd h1 hne
  · exfalso
    have := cmpB_flip (srtE t).bn[i] (srtE t).bn[j]
    omega
theorem asc_perm {t u : Tr} (ht : t.Asc) (hu : u.Asc) (hp : (eds t).Perm (eds u)) : t = u := by
  unfold Tr.Asc at ht hu
  rw [eds_bn, List.pairwise_map] at ht hu
  exact eds_inj (hp.eq_of_pairwise (le := fun a b => a.1.data.toList < b.1.data.toList) (fun a b _ _ h1 h2 => absurd (List.lt_trans h1 h2) (List.lt_irrefl _)) ht hu)
theorem eds_with {name : ByteArray} {x : Tr} : ∀ {t : Tr}, t.atIs name = false → (eds (t.withT name x)).Perm ((name, x) :: eds t)
  | .nil, _ => List.Perm.refl _
  | .cons s k r, h => by
    rcases cases3 s name with c | ⟨c, d⟩ | ⟨c, d, _⟩
    · rw [withT_lt c, eds, eds]
      rw [Pt.atIs_lt c] at h
      exact ((eds_with (t := r) h).cons (s, k)).trans (List.Perm.swap _ _ _)
    · rw [atIs_ge c, d] at h
      cases h
    · rw [withT_gt c d, eds, eds]
/-- A record's tree, its fields put in one by one. -/
def rowT : List ByteArray → List ByteArray → Tr → Tr
  | c :: cs, v :: vs, x => rowT cs vs (if v.size = 0 then x else x.withT c (.cons v .nil .nil))
  | _, _, x => x
theorem mem_atIs {t : Tr} {q : ByteArray} (ha : t.Asc) : t.atIs q = true ↔ q.data.toList ∈ t.bn := by
  constructor
  · intro h
    obtain ⟨k, hk⟩ : ∃ k, k = t.atN q := ⟨_, rfl⟩
    unfold Tr.atIs at h
    rw [← hk] at h
    clear hk ha
    have key : ∀ (t : Tr) (k : Nat), (t.dropT k).headIs q = true → q.data.toList ∈ t.bn := by
      intro t
      induction t with
      | nil => intro k h; cases k <;> cases h
      | cons s kk r _ ih =>
        intro k h
        cases k with
        | zero =>
          have e : s = q := names_of_eq (by simpa [dropT_zero, Tr.headIs] using h)
          rw [bn_cons, e]
          exact List.mem_cons_self ..
        | succ k => rw [bn_cons]; exact List.mem_cons_of_mem _ (ih k h)
    exact key t k h
  · exact atIs_mem ha
theorem with_bn_mem {name : ByteArray} {x t : Tr} (ha : t.Asc) {q : List UInt8} : q ∈ (t.withT name x).bn ↔ q = name.data.toList ∨ q ∈ t.bn := by
  constructor
  · exact withT_mem
  · intro h
    have e : q = (ByteArray.mk q.toArray).data.toList := by simp
    rw [e]
    refine (mem_atIs (withT_asc ha)).1 ?_
    rcases h with h | h
    · have : ByteArray.mk q.toArray = name := by rw [h]
      rw [this]; exact with_is.1
    · by_cases hn : (name.toList == (ByteArray.mk q.toArray).toList) = true
      · rw [← names_of_eq hn]; exact with_is.1
      · rw [(with_other (by simpa using hn) ha).1]
        exact (mem_atIs ha).2 (by simpa using h)
theorem rawB_bn : ∀ (cs vs : List ByteArray) (q : List UInt8), q ∈ (rawB cs vs).bn → q ∈ cs.map (·.data.toList)
  | [], _, q, h => by unfold rawB at h; cases h
  | _ :: _, [], q, h => by unfold rawB at h; cases h
  | c :: cs, v :: vs, q, h => by
    rw [rawB] at h
    split at h
    · exact List.mem_cons_of_mem _ (rawB_bn cs vs q h)
    · rw [bn_cons] at h
      rcases List.mem_cons.1 h with e | e
      · rw [e]; exact List.mem_cons_self ..
      · exact List.mem_cons_of_mem _ (rawB_bn cs vs q e)
theorem rawB_nodup : ∀ (cs vs : List ByteArray), (cs.map (·.data.toList)).Nodup → (rawB cs vs).bn.Nodup
  | [], _, _ => by unfold rawB; exact List.nodup_nil
  | _ :: _, [], _ => by unfold rawB; exact List.nodup_nil
  | c :: cs, v :: vs, h => by
    rw [List.map_cons, List.nodup_cons] at h
    rw [rawB]
    split
    · exact rawB_nodup cs vs h.2
    · rw [bn_cons, List.nodup_cons]
      exact ⟨fun e => h.1 (rawB_bn cs vs _ e), rawB_nodup cs vs h.2⟩
theorem rowT_perm : ∀ (cs vs : List ByteArray) (x : Tr), (cs.map (·.data.toList)).Nodup → x.Asc → (∀ c ∈ cs, c.data.toList ∉ x.bn) → (rowT cs vs x).Asc ∧ (eds (rowT cs vs x)).Perm (eds (rawB cs vs) ++ eds x)
  | [], _, _, _, ha, _ => by unfold rowT rawB; exact ⟨ha, List.Perm.refl _⟩
  | _ :: _, [], _, _, ha, _ => by unfold rowT rawB; exact ⟨ha, List.Perm.refl _⟩
  | c :: cs, v :: vs, x, hn, ha, hx => by
    rw [List.map_cons, List.nodup_cons] at hn
    rw [rowT, rawB]
    by_cases hv : v.size = 0
    · rw [if_pos hv, if_pos hv]
      exact rowT_perm cs vs x hn.2 ha (fun d hd => hx d (by simp [hd]))
    · rw [if_neg hv, if_neg hv]
      have hc : x.atIs c = false := by
        cases hq : x.atIs c with
        | false => rfl
        | true => exact absurd ((mem_atIs ha).1 hq) (hx c (by simp))
      obtain ⟨a, b⟩ := rowT_perm cs vs (x.withT c (.cons v .nil .nil)) hn.2 (withT_asc ha) (fun d hd hm => by
        rcases withT_mem hm with e | e
        · exact hn.1 (by rw [← e]; exact List.mem_map_of_mem hd)
        · exact hx d (by simp [hd]) e)
      refine ⟨a, b.trans ?_⟩
      refine ((eds_with hc).append_left _).trans ?_
      rw [eds]
      exact List.perm_middle
theorem rowT_eq {cs vs : List ByteArray} (hn : (cs.map (·.data.toList)).Nodup) : rowT cs vs .nil = srtE (rawB cs vs) := by
  obtain ⟨a, b⟩ := rowT_perm cs vs .nil hn nil_asc (fun _ _ h => by cases h)
  refine asc_perm a (srt_asc (rawB_nodup cs vs hn)) (b.trans ?_)
  have e : eds Tr.nil = [] := rfl
  rw [e, List.append_nil]
  exact (srt_perm _).symm
/-- The file's tree, its rows put in one by one. -/
def accT (cols : List ByteArray) : Tr → List Rw → Tr
  | t, [] => t
  | t, r :: rs => accT cols (t.withT (nm r) (rowT cols (mns r.fs.tail) .nil)) rs
theorem accT_snoc (cols : List ByteArray) : ∀ (rs : List Rw) (t : Tr) (r : Rw), accT cols t (rs ++ [r]) = (accT cols t rs).withT (nm r) (rowT cols (mns r.fs.tail) .nil)
  | [], _, _ => rfl
  | x :: rs, t, r => by rw [List.cons_append, accT, accT, accT_snoc cols rs]
theorem accT_asc (cols : List ByteArray) : ∀ (rs : List Rw) (t : Tr), t.Asc → (accT cols t rs).Asc
  | [], _, h => h
  | _ :: rs, _, h => accT_asc cols rs _ (withT_asc h)
theorem accT_mem (cols : List ByteArray) : ∀ (rs : List Rw) (t : Tr) (q : List UInt8), t.Asc → (q ∈ (accT cols t rs).bn ↔ q ∈ t.bn ∨ ∃ r ∈ rs, (nm r).data.toList = q)
  | [], t, q, _ => by simp [accT]
  | r :: rs, t, q, h => by
    rw [accT, accT_mem cols rs _ q (withT_asc h), with_bn_mem h]
    simp only [List.mem_cons, exists_eq_or_imp]
    constructor
    · rintro ((h | h) | h)
      · exact .inr (.inl h.symm)
      · exact .inl h
      · exact .inr (.inr h)
    · rintro (h | h | h)
      · exact .inl (.inr h)
      · exact .inl (.inl h.symm)
      · exact .inr h
theorem recs_bn (cols : List ByteArray) : ∀ rs : List Rw, (recsT srtE cols rs).bn = rs.map fun r => (nm r).data.toList
  | [] => rfl
  | r :: rs => by rw [recsT, bn_cons, recs_bn cols rs]; rfl
theorem accT_perm {cols : List ByteArray} (hc : (cols.map (·.data.toList)).Nodup) : ∀ (rs : List Rw) (t : Tr), (rs.map fun r => (nm r).data.toList).Nodup → t.Asc → (∀ r ∈ rs, (nm r).data.toList ∉ t.bn) → (eds (accT cols t rs)).Perm (eds (recsT srtE cols rs) ++ eds t)
  | [], t, _, _, _ => List.Perm.refl _
  | r :: rs, t, hn, ha, hx => by
    rw [List.map_cons, List.nodup_cons] at hn
    have hr : t.atIs (nm r) = false := by
      cases hq : t.atIs (nm r) with
      | false => rfl
      | true => exact absurd ((mem_atIs ha).1 hq) (hx r (by simp))
    rw [accT, recsT, eds, rowT_eq hc]
    refine (accT_perm hc rs _ hn.2 (withT_asc ha) (fun d hd hm => ?_)).trans ?_
    · rcases withT_mem hm with e | e
      · exact hn.1 (by rw [← e]; exact List.mem_map_of_mem (f := fun r => (nm r).data.toList) hd)
      · exact hx d (by simp [hd]) e
    · exact ((eds_with hr).append_left _).trans List.perm_middle
theorem accT_eq {cols : List ByteArray} {rs : List Rw} (hc : (cols.map (·.data.toList)).Nodup) (hn : (rs.map fun r => (nm r).data.toList).Nodup) : accT cols .nil rs = srtE (recsT srtE cols rs) := by
  refine asc_perm (accT_asc cols rs _ nil_asc) (srt_asc (by rw [recs_bn]; exact hn)) ?_
  refine (accT_perm hc rs .nil hn nil_asc (fun _ _ h => by cases h)).trans ?_
  have e : eds Tr.nil = [] := rfl
  rw [e, List.append_nil]
  exact (srt_perm _).symm
end Go.Proofs.YtgefoehpdiiomaaGreatDoor.Cv
namespace Go.Proofs.YtgefoehpdiiomaaGreatDoor.In
open Go.RowKit Go.Proofs.YtgefoehpdiiomaaGreatDoor.Li Go.Proofs.YtgefoehpdiiomaaGreatDoor.Cv Go.Proofs.YtgefoehpdiiomaaGreatDoor.Pt
set_option maxRecDepth 100000

def oneN (t : Tr) : Bs := match t with | .cons s _ _ => s.data.toList | .nil => []
def withR (r : Ro) (v : Bs) : Ln := (r.ln.1.take r.pos ++ v ++ r.ln.1.drop (r.pos + r.val.length), r.ln.2)
/-- A line as it is in a section of these keys; none: it goes. -/
def putRow (keys : Tr) (is : Bool) (r : Ro) : Option Ln :=
  if r.kind = 1 then some r.ln else
  if r.kind = 2 then (if is = true then some r.ln else none) else
  if (getT keys [⟨r.name.toArray⟩]).2 = true then some (withR r (oneN (getT keys [⟨r.name.toArray⟩]).1)) else none
def stepR (keys : Tr) (is : Bool) (acc : List Ln × Nat) (r : Ro) : List Ln × Nat :=
  match putRow keys is r with
  | none => acc
  | some x => (acc.1 ++ [x], if r.kind = 1 then acc.2 else acc.1.length + 1)
def keyL (E : Bs) (e : ByteArray × Tr) : Ln := (e.1.data.toList ++ [61] ++ oneN e.2, E)
def freshK (keys : Tr) (rows : List Ro) : List (ByteArray × Tr) := (eds keys).filter fun e => !(rows.any fun r => r.kind == 3 && e.1.data.toList == r.name)
def putPart (t : Tr) (E : Bs) (p : Pt) : List Ln :=
  let k := getT t [⟨p.name.toArray⟩]
  let a := p.rows.foldl (stepR k.1 k.2) ([], 0)
  a.1.take a.2 ++ (freshK k.1 p.rows).map (keyL E) ++ a.1.drop a.2
def freshS (t : Tr) (ps : List Pt) : List (ByteArray × Tr) := (eds t).filter fun e => !(ps.any fun p => e.1.data.toList == p.name)
def secL (E : Bs) (e : ByteArray × Tr) : List Ln := ([91] ++ e.1.data.toList ++ [93], E) :: (eds e.2).map (keyL E)
/-- The file. -/
def putI (ps : List Pt) (E : Bs) (t : Tr) : Bs := join (ended E (ps.flatMap (putPart t E) ++ (freshS t ps).flatMap (secL E)))
/-- What is put into this file makes. -/
def putF (t : Tr) (l : Bs) : Bs := putI (partsI [⟨[], []⟩] 0 (split l)).1 (endOf (split l)) t
end Go.Proofs.YtgefoehpdiiomaaGreatDoor.In
