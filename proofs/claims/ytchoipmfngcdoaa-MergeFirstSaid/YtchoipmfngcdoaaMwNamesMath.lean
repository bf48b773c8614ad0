/- Names in order, each once: what sorting and leaving out makes; trees whose edges stand in order. No conditions. · tree.find at edges that stand in order: where the edge of that name stands or would stand, and whether it is there. No conditions. · Trees and paths: what is below a path, with something put there, without it. No conditions. · Where two trees differ: the paths, told by the names of both. No conditions. -/
import Derived.Test.YtchoipmfngcdoaaNames
import Derived.Test.YtchoipmfngcdoaaMwSame
namespace Go.Proofs.Ytchoipmfngcdoaa
open Go.RowKit

/-- The names as bytes. -/
def Tr.bn (t : Tr) : List (List UInt8) := t.names.map (·.data.toList)
theorem bn_cons (s : ByteArray) (k r : Tr) : (Tr.cons s k r).bn = s.data.toList :: r.bn := rfl
theorem bn_length (t : Tr) : t.bn.length = t.len := by rw [Tr.bn, List.length_map, names_length]
def Tr.Asc (t : Tr) : Prop := t.bn.Pairwise (· < ·)
theorem bytes_eq {s t : ByteArray} (h : s.toList = t.toList) : s = t := by
  rw [ByteArray.toList_eq, ByteArray.toList_eq] at h
  exact ByteArray.ext (Array.toList_inj.1 h)
theorem less_iff (x y : ByteArray) : Op.bytesLess x.toList y.toList = true ↔ x.data.toList < y.data.toList := by
  rw [Go.Proofs.bytesLess_eq, ByteArray.toList_eq, ByteArray.toList_eq, decide_eq_true_iff]

theorem withT_mem {name : ByteArray} {x : Tr} {y : List UInt8} : ∀ {t : Tr}, y ∈ (t.withT name x).bn → y = name.data.toList ∨ y ∈ t.bn
  | .nil, h => by simp only [Tr.withT, bn_cons, List.mem_cons] at h; exact h
  | .cons s k r, h => by
    unfold Tr.withT at h
    split at h
    · rw [bn_cons, List.mem_cons] at h
      rcases h with rfl | h
      · right; rw [bn_cons]; exact List.mem_cons_self
      · rcases withT_mem h with e | e
        · exact .inl e
        · right; rw [bn_cons]; exact List.mem_cons_of_mem _ e
    · split at h
      · rw [bn_cons, List.mem_cons] at h
        rcases h with e | h
        · exact .inl e
        · right; rw [bn_cons]; exact List.mem_cons_of_mem _ h
      · rw [bn_cons, List.mem_cons] at h
        exact h
theorem withT_asc {name : ByteArray} {x : Tr} : ∀ {t : Tr}, t.Asc → (t.withT name x).Asc
  | .nil, _ => by unfold Tr.Asc; simp [Tr.withT, Tr.bn, Tr.names]
  | .cons s k r, h => by
    unfold Tr.Asc at h
    rw [bn_cons, List.pairwise_cons] at h
    unfold Tr.withT
    split
    · rename_i hl
      unfold Tr.Asc
      rw [bn_cons, List.pairwise_cons]
      refine ⟨fun y hy => ?_, withT_asc (t := r) h.2⟩
      rcases withT_mem hy with rfl | e
      · exact (less_iff _ _).1 hl
      · exact h.1 y e
    · rename_i hl
      split
      · rename_i he
        have he := bytes_eq (beq_iff_eq.1 he)
        subst he
        unfold Tr.Asc
        rw [bn_cons, List.pairwise_cons]
        exact h
      · rename_i he
        have h1 : name.data.toList < s.data.toList := by
          rcases List.le_total s.data.toList name.data.toList with h2 | h2
          · by_cases h3 : name.data.toList ≤ s.data.toList
            · have := List.le_antisymm h2 h3
              rw [← ByteArray.toList_eq, ← ByteArray.toList_eq] at this
              exact absurd (beq_iff_eq.2 this) he
            · exact absurd ((less_iff _ _).2 (by simpa using h3)) hl
          · by_cases h3 : s.data.toList ≤ name.data.toList
            · have := List.le_antisymm h3 h2
              rw [← ByteArray.toList_eq, ← ByteArray.toList_eq] at this
              exact absurd (beq_iff_eq.2 this) he
            · simpa using h3
        unfold Tr.Asc
        rw [bn_cons, bn_cons, List.pairwise_cons, List.pairwise_cons]
        refine ⟨fun y hy => ?_, h⟩
        rcases List.mem_cons.1 hy with rfl | e
        · exact h1
        · exact List.lt_trans h1 (h.1 y e)
theorem makeT_asc (W : Nat) : ∀ (t : Tr) (l d : Nat) (acc : Tr), acc.Asc → (t.makeT W l d acc).Asc
  | .nil, _, _, _, h => by simpa [Tr.makeT] using h
  | .cons s k r, l, d, acc, h => by
    unfold Tr.makeT
    split
    · exact h
    · exact makeT_asc W r _ _ _ (withT_asc h)
theorem nil_asc : Tr.nil.Asc := List.Pairwise.nil
theorem withT_len_le {name : ByteArray} {x t : Tr} : (t.withT name x).len ≤ t.len + 1 := by
  have := withT_len name x t
  omega

theorem atIs_mem {name : ByteArray} : ∀ {t : Tr}, t.Asc → name.data.toList ∈ t.bn → t.atIs name = true
  | .nil, _, h => by simp [Tr.bn, Tr.names] at h
  | .cons s k r, ha, h => by
    unfold Tr.Asc at ha
    rw [bn_cons, List.pairwise_cons] at ha
    rw [bn_cons, List.mem_cons] at h
    unfold Tr.atIs
    by_cases hl : Op.bytesLess s.toList name.toList = true
    · have hlt := (less_iff _ _).1 hl
      simp only [Tr.atN]
      rw [if_pos hl]
      rcases h with e | h
      · rw [e] at hlt
        exact absurd hlt (List.lt_irrefl _)
      · exact atIs_mem (t := r) ha.2 h
    · simp only [Tr.atN]
      rw [if_neg hl]
      rcases h with e | h
      · have e2 : s = name := ByteArray.ext (Array.toList_inj.1 e.symm)
        subst e2
        rw [dropT_zero]
        simp [Tr.headIs]
      · exact absurd ((less_iff _ _).2 (ha.1 _ h)) hl

/-- Of a list in order: what compactUpTo keeps. -/
theorem upTo_facts (zs : List (List UInt8)) (h : zs.Pairwise (· ≤ ·)) : ∀ m, m ≤ zs.length →
    (Go.Lib.compactUpTo zs.toArray m).Pairwise (· < ·) ∧ (∀ x ∈ Go.Lib.compactUpTo zs.toArray m, ∃ j, j < m ∧ x = zs.toArray[j]!) ∧ ∀ j, j < m → zs.toArray[j]! ∈ Go.Lib.compactUpTo zs.toArray m := by
  have hle : ∀ i j, i ≤ j → j < zs.length → zs.toArray[i]! ≤ zs.toArray[j]! := by
    intro i j hij hj
    rw [getElem!_pos _ i (by simp; omega), getElem!_pos _ j (by simpa using hj)]
    simp only [List.getElem_toArray]
    rcases Nat.lt_or_ge i j with g | g
    · exact List.pairwise_iff_getElem.1 h i j (by omega) hj g
    · obtain rfl : i = j := by omega
      exact List.le_refl _
  intro m
  induction m with
  | zero => intro _; exact ⟨by simp [Go.Lib.compactUpTo], by simp [Go.Lib.compactUpTo], by intro j hj; omega⟩
  | succ m ih =>
    intro hm
    obtain ⟨h1, h2, h3⟩ := ih (by omega)
    rw [Go.Lib.compactUpTo_succ]
    by_cases hk : Go.Lib.keeps zs.toArray m = true
    · rw [if_pos hk]
      have hk' := of_decide_eq_true hk
      refine ⟨?_, ?_, ?_⟩
      · rw [List.pairwise_append]
        refine ⟨h1, List.pairwise_singleton _ _, fun x hx y hy => ?_⟩
        obtain ⟨j, hj, rfl⟩ := h2 x hx
        rw [List.mem_singleton] at hy
        subst hy
        rcases hk' with e | e
        · omega
        · have a1 := hle j (m - 1) (by omega) (by omega)
          have a2 := hle (m - 1) m (by omega) (by omega)
          refine List.lt_of_le_of_lt a1 ?_
          by_cases h4 : zs.toArray[m]! ≤ zs.toArray[m - 1]!
          · exact absurd (List.le_antisymm h4 a2) e
          · simpa using h4
      · intro x hx
        rw [List.mem_append, List.mem_singleton] at hx
        rcases hx with hx | rfl
        · obtain ⟨j, hj, e⟩ := h2 x hx
          exact ⟨j, by omega, e⟩
        · exact ⟨m, by omega, rfl⟩
      · intro j hj
        rw [List.mem_append, List.mem_singleton]
        by_cases e : j = m
        · right; rw [e]
        · left; exact h3 j (by omega)
    · rw [if_neg hk, List.append_nil]
      have hk' : ¬ (m = 0 ∨ zs.toArray[m]! ≠ zs.toArray[m - 1]!) := fun e => hk (decide_eq_true e)
      refine ⟨h1, fun x hx => ?_, fun j hj => ?_⟩
      · obtain ⟨j, hj, e⟩ := h2 x hx
        exact ⟨j, by omega, e⟩
      · by_cases e : j = m
        · subst e
          have e1 : zs.toArray[j]! = zs.toArray[j - 1]! := Classical.byContradiction fun h => hk' (.inr h)
          rw [e1]
          exact h3 (j - 1) (by omega)
        · exact h3 j (by omega)
theorem sorted_pair (ss : List (List UInt8)) : (sorted ss).Pairwise (· ≤ ·) :=
  (List.pairwise_mergeSort (le := fun x y => decide (x ≤ y)) (fun a b c h1 h2 => by simp only [decide_eq_true_eq] at *; exact List.le_trans h1 h2) (fun a b => by simp only [Bool.or_eq_true, decide_eq_true_eq]; exact List.le_total a b) ss).imp (fun h => of_decide_eq_true h)
theorem namesOf_pair (L : List ByteArray) : (namesOf L).Pairwise (· < ·) :=
  (upTo_facts _ (sorted_pair _) _ (Nat.le_refl _)).1
theorem namesOf_mem (L : List ByteArray) (x : List UInt8) : x ∈ namesOf L ↔ x ∈ L.map (·.data.toList) := by
  obtain ⟨_, h2, h3⟩ := upTo_facts _ (sorted_pair (L.map (·.data.toList))) _ (Nat.le_refl _)
  have hp : ∀ y, y ∈ sorted (L.map (·.data.toList)) ↔ y ∈ L.map (·.data.toList) := fun y => List.mem_mergeSort
  rw [← hp]
  constructor
  · intro hx
    obtain ⟨j, hj, rfl⟩ := h2 x hx
    rw [getElem!_pos _ j (by simpa using hj)]
    simp
  · intro hx
    obtain ⟨j, hj, rfl⟩ := List.getElem_of_mem hx
    have := h3 j hj
    rw [getElem!_pos _ j (by simpa using hj), List.getElem_toArray] at this
    exact this
theorem len_le {α : Type} [DecidableEq α] : ∀ (l m : List α), l.Nodup → (∀ x ∈ l, x ∈ m) → l.length ≤ m.length
  | [], m, _, _ => Nat.zero_le _
  | a :: l, m, hd, hs => by
    rw [List.nodup_cons] at hd
    have ha := hs a List.mem_cons_self
    have := len_le l (m.erase a) hd.2 (fun x hx => (List.mem_erase_of_ne (fun e => hd.1 (by rw [← e]; exact hx))).2 (hs x (List.mem_cons_of_mem _ hx)))
    rw [List.length_erase_of_mem ha] at this
    have : 0 < m.length := List.length_pos_of_mem ha
    simp only [List.length_cons]
    omega
theorem asc_nodup {l : List (List UInt8)} (h : l.Pairwise (· < ·)) : l.Nodup :=
  h.imp (fun h e => by rw [e] at h; exact List.lt_irrefl _ h)
/-- Two lists in order with the same members are one. -/
theorem asc_eq : ∀ {l m : List (List UInt8)}, l.Pairwise (· < ·) → m.Pairwise (· < ·) → (∀ x, x ∈ l ↔ x ∈ m) → l = m
  | [], [], _, _, _ => rfl
  | [], b :: m, _, _, h => by have := (h b).2 List.mem_cons_self; simp at this
  | a :: l, [], _, _, h => by have := (h a).1 List.mem_cons_self; simp at this
  | a :: l, b :: m, hl, hm, h => by
    rw [List.pairwise_cons] at hl hm
    have e : a = b := by
      have h1 := (h a).1 List.mem_cons_self
      have h2 := (h b).2 List.mem_cons_self
      rw [List.mem_cons] at h1 h2
      rcases h1 with e | h1
      · exact e
      · rcases h2 with e | h2
        · exact e.symm
        · exact absurd (List.lt_trans (hl.1 b h2) (hm.1 a h1)) (List.lt_irrefl _)
    subst e
    rw [asc_eq hl.2 hm.2 (fun x => ?_)]
    have := h x
    rw [List.mem_cons, List.mem_cons] at this
    constructor
    · intro hx
      rcases this.1 (.inr hx) with e | e
      · subst e; exact absurd (hl.1 _ hx) (List.lt_irrefl _)
      · exact e
    · intro hx
      rcases this.2 (.inr hx) with e | e
      · subst e; exact absurd (hm.1 _ hx) (List.lt_irrefl _)
      · exact e
theorem namesOf_asc {t : Tr} (h : t.Asc) : namesOf t.names = t.bn := asc_eq (namesOf_pair _) h (fun x => namesOf_mem _ x)
theorem namesOf_ge (L : List ByteArray) {t : Tr} (h : t.Asc) (hs : ∀ x ∈ t.bn, x ∈ L.map (·.data.toList)) : t.len ≤ (namesOf L).length := by
  rw [← bn_length]
  exact len_le _ _ (asc_nodup h) (fun x hx => (namesOf_mem L x).2 (hs x hx))
theorem namesOf_le (L : List ByteArray) : (namesOf L).length ≤ L.length := by
  have := once_le (sorted (L.map (·.data.toList)))
  rw [sorted_length, List.length_map] at this
  exact this
end Go.Proofs.Ytchoipmfngcdoaa
namespace Go.Proofs.Ytchoipmfngcdoaa
open Go.RowKit
set_option maxRecDepth 100000

theorem asc_at {name : ByteArray} : ∀ {t : Tr} {k : Nat} {s : ByteArray}, t.Asc → t.names[k]? = some s → (Op.bytesLess s.toList name.toList = true ↔ k < t.atN name)
  | .nil, _, _, _, h => by simp [Tr.names] at h
  | .cons s0 k0 r, 0, s, ha, h => by
    simp only [Tr.names, List.getElem?_cons_zero, Option.some.injEq] at h
    subst h
    simp only [Tr.atN]
    split
    · rename_i hl; simp [hl]
    · rename_i hl; simp [hl]
  | .cons s0 k0 r, k + 1, s, ha, h => by
    simp only [Tr.names, List.getElem?_cons_succ] at h
    have ha' := ha
    unfold Tr.Asc at ha'
    rw [bn_cons, List.pairwise_cons] at ha'
    simp only [Tr.atN]
    split
    · rw [asc_at (t := r) ha'.2 h]
      omega
    · rename_i hl
      constructor
      · intro hs
        have hm : s.data.toList ∈ r.bn := List.mem_map.2 ⟨s, List.mem_of_getElem? h, rfl⟩
        exact absurd ((less_iff _ _).2 (List.lt_trans (ha'.1 _ hm) ((less_iff _ _).1 hs))) hl
      · intro hs; omega
theorem asc_eqn {name : ByteArray} : ∀ {t : Tr} {k : Nat}, t.Asc → t.names[k]? = some name → k = t.atN name
  | .nil, _, _, h => by simp [Tr.names] at h
  | .cons s0 k0 r, 0, ha, h => by
    simp only [Tr.names, List.getElem?_cons_zero, Option.some.injEq] at h
    subst h
    simp only [Tr.atN]
    rw [if_neg (fun e => List.lt_irrefl _ ((less_iff _ _).1 e))]
  | .cons s0 k0 r, k + 1, ha, h => by
    simp only [Tr.names, List.getElem?_cons_succ] at h
    unfold Tr.Asc at ha
    rw [bn_cons, List.pairwise_cons] at ha
    have hm : name.data.toList ∈ r.bn := List.mem_map.2 ⟨name, List.mem_of_getElem? h, rfl⟩
    simp only [Tr.atN]
    rw [if_pos ((less_iff _ _).2 (ha.1 _ hm)), asc_eqn (t := r) ha.2 h]
theorem at_there {name : ByteArray} : ∀ {t : Tr} {k : Nat} {s : ByteArray}, t.names[k]? = some s → k = t.atN name → t.atIs name = (s.toList == name.toList)
  | .nil, _, _, h, _ => by simp [Tr.names] at h
  | .cons s0 k0 r, k, s, h, hk => by
    unfold Tr.atIs
    simp only [Tr.atN] at hk ⊢
    split at hk
    · rename_i hl
      subst hk
      rw [if_pos hl]
      simp only [Tr.names, List.getElem?_cons_succ] at h
      exact at_there (t := r) h rfl
    · rename_i hl
      subst hk
      rw [if_neg hl]
      simp only [Tr.names, List.getElem?_cons_zero, Option.some.injEq] at h
      subst h
      rw [dropT_zero]
      rfl
theorem drop_names {t r kt : Tr} {k : Nat} {s : ByteArray} (hd : t.dropT k = .cons s kt r) : t.names[k]? = some s := by
  have h1 := names_drop t k
  rw [hd] at h1
  have := congrArg (·[0]?) h1
  simp [Tr.names] at this
  exact this.symm

set_option maxHeartbeats 2000000 in
theorem find_any (t : Tr) (ha : t.Asc) (A : Option Addr) (n c B : Nat) (name : ByteArray) (w : World) (h : Holds w B A n t) (hB : B ≤ w.heap.size) (hn : n ≤ 140737488351232) :
    Calls Try.prog 76 #[.slice A n c, .string name] w fun e w' => e = .returned (.tuple #[.int .i64 (t.atN name : Nat), .bool (t.atIs name)]) ∧ Below B w w' := by
  have Hn := Lib.hid h.len
  have hle := atN_le name t
  rw [← Hn.out] at hle
  have Hlt := Lib.hid (fun e => atIs_lt (name := name) (t := t) e)
  obtain ⟨p, hp⟩ : ∃ p, p = t.atN name := ⟨_, rfl⟩
  obtain ⟨v, hv⟩ : ∃ v, v = t.atIs name := ⟨_, rfl⟩
  have Hat := Lib.hid (fun (k : Nat) (s : ByteArray) (h : t.names[k]? = some s) => asc_at (name := name) ha h)
  have Hth := Lib.hid (fun (k : Nat) (s : ByteArray) (h : t.names[k]? = some s) => at_there (name := name) (k := k) h)
  have Heq := Lib.hid (fun (k : Nat) (h : t.names[k]? = some name) => asc_eqn (name := name) ha h)
  rw [← hp] at hle Hlt Hat Hth Heq ⊢
  rw [← hv] at Hlt Hth ⊢
  clear hp hv
  go_enter Try.func76, Try.ntmps76
  go_wp2_with fail
  go_loopw [6, 13] (fun a i wr => ∃ (k at' : Nat), k ≤ n ∧ i = .int .i64 k ∧ a = .int .i64 at' ∧ Hid (k ≤ p → at' = n) ∧ Hid (p < k → at' = p ∧ v = false) ∧ Below B w wr) (fun _ i _ => n - (intOf i).toNat)
  case atStart => exact ⟨0, n, Nat.zero_le _, rfl, rfl, Lib.hid (fun _ => rfl), Lib.hid (fun h => by omega), Below.refl _ _⟩
  case round =>
    obtain ⟨k, q, hk, rfl, rfl, H1, H2, hbw⟩ := hrel
    by_cases hlt : k < n
    · obtain ⟨b, o, s, kt, r, A', n', c', rfl, hb, hs, hc, hn', hc', hk', hr, hd, hd2⟩ := (h.below hbw).split k hlt
      have hnm := drop_names hd
      have hkn : (k : Int) < (n : Int) := by omega
      have hk0 : (0 : Int) ≤ (k : Int) := by omega
      have hat := Hat.out k s hnm
      have hth := Hth.out k s hnm
      have HkN := Lib.hid hlt
      have hsz := hbw.size
      have hbr := hbw.alloc (Nat.le_trans hB hsz) (Obj.cells #[Value.string s, Value.slice A' n' c'] 51)
      by_cases he : s.toList = name.toList
      · have hs0 := bytes_eq he
        subst hs0
        have hkp := Heq.out k hnm
        subst hkp
        have hv := hth rfl
        rw [beq_self_eq_true] at hv
        subst hv
        clear hat hth hd hd2 hnm H1 H2 hlt
        have he2 : (s.toList == s.toList) = true := by simp
        go_wp2_with fail
        go_ret2
        exact ⟨rfl, hbr⟩
      · have he2 : (s.toList == name.toList) = false := by simpa using he
        cases hl : Op.bytesLess s.toList name.toList with
        | true =>
          have hkp := hat.1 hl
          have hq := H1.out (by omega)
          subst hq
          have Hkp := Lib.hid hkp
          clear hat hth hd hd2 hnm H1 H2 hlt hkp he
          go_wp2_with fail
          go_roundw
          case rel => exact ⟨k + 1, q, by have := HkN.out; omega, by go_num, rfl, Lib.hid (fun _ => rfl), Lib.hid (fun g => by have := Hkp.out; omega), hbr⟩
          case measure => have := HkN.out; simp [intOf]; omega
        | false =>
          have hpk : p ≤ k := by
            rcases Nat.lt_or_ge k p with g | g
            · rw [hat.2 g] at hl; cases hl
            · exact g
          rcases Nat.lt_or_ge p k with g | g
          · obtain ⟨rfl, hv⟩ := H2.out g
            have Hv := Lib.hid hv
            have hmin : ((k : Int) < (q : Int)) = False := by simp; omega
            have hmin2 : ¬ ((k : Int) < (q : Int)) := by omega
            have hmin3 : ¬ (k < q) := by omega
            have Hg := Lib.hid g
            clear hat hth hd hd2 hnm H1 H2 hlt he hv hpk g
            go_wp2_with fail
            go_roundw
            case rel => exact ⟨k + 1, q, by have := HkN.out; omega, by go_num, by go_num, Lib.hid (fun g2 => by have := Hg.out; omega), Lib.hid (fun _ => ⟨rfl, Hv.out⟩), hbr⟩
            case measure => have := HkN.out; simp [intOf]; omega
          · obtain rfl : k = p := by omega
            obtain rfl := H1.out (Nat.le_refl _)
            have hv := hth rfl
            rw [he2] at hv
            have Hv := Lib.hid hv
            have hmin2 : ((k : Int) < (q : Int)) := hkn
            have hmin3 : k < q := by omega
            clear hat hth hd hd2 hnm H1 H2 he hv hpk g
            go_wp2_with fail
            go_roundw
            case rel => exact ⟨k + 1, k, by have := HkN.out; omega, by go_num, by go_num, Lib.hid (fun g2 => by omega), Lib.hid (fun _ => ⟨rfl, Hv.out⟩), hbr⟩
            case measure => have := HkN.out; simp [intOf]; omega
    · obtain rfl : k = n := by omega
      have hvp : q = p ∧ v = false := by
        rcases Nat.lt_or_ge p k with g | g
        · exact H2.out g
        · have hq := H1.out g
          refine ⟨by omega, ?_⟩
          cases v with
          | false => rfl
          | true => have := Hlt.out rfl; rw [← Hn.out] at this; omega
      obtain ⟨rfl, rfl⟩ := hvp
      have hkk : ¬ ((k : Int) < (k : Int)) := by omega
      clear H1 H2 hlt
      go_wp2_with fail
      go_ret2
      exact ⟨rfl, hbw⟩
end Go.Proofs.Ytchoipmfngcdoaa
namespace Go.Proofs.Ytchoipmfngcdoaa.Pt
open Go.RowKit
set_option maxRecDepth 100000

theorem lt_iff (x y : ByteArray) : Op.bytesLess x.toList y.toList = true ↔ x.data.toList < y.data.toList := by
  rw [Go.Proofs.bytesLess_eq, ByteArray.toList_eq, ByteArray.toList_eq, decide_eq_true_iff]
theorem not_lt {x y : ByteArray} (h : Op.bytesLess x.toList y.toList = false) : Op.bytesLess y.toList x.toList = true ∨ (Op.bytesLess y.toList x.toList = false ∧ (y.toList == x.toList) = true) := by
  cases hc : Op.bytesLess y.toList x.toList with
  | true => exact .inl rfl
  | false =>
    right
    have h1 : ¬ x.data.toList < y.data.toList := fun e => by rw [(lt_iff x y).2 e] at h; cases h
    have h2 : ¬ y.data.toList < x.data.toList := fun e => by rw [(lt_iff y x).2 e] at hc; cases hc
    have := List.le_antisymm (Classical.not_not.1 (fun e => h2 (by simpa using e)) : x.data.toList ≤ y.data.toList) (Classical.not_not.1 (fun e => h1 (by simpa using e)))
    rw [ByteArray.toList_eq, ByteArray.toList_eq, this]
    exact ⟨rfl, beq_self_eq_true _⟩
theorem lt_not {x y : ByteArray} (h : Op.bytesLess x.toList y.toList = true) : Op.bytesLess y.toList x.toList = false ∧ (y.toList == x.toList) = false := by
  have h1 := (lt_iff x y).1 h
  constructor
  · cases hc : Op.bytesLess y.toList x.toList with
    | false => rfl
    | true => exact absurd (List.lt_trans h1 ((lt_iff y x).1 hc)) (List.lt_irrefl _)
  · cases hc : (y.toList == x.toList) with
    | false => rfl
    | true =>
      have := beq_iff_eq.1 hc
      rw [ByteArray.toList_eq, ByteArray.toList_eq] at this
      rw [this] at h1
      exact absurd h1 (List.lt_irrefl _)

/-- Below a name: what is there, or nothing. -/
def kidT : Tr → ByteArray → Tr
  | .nil, _ => .nil
  | .cons s k r, name => if Op.bytesLess s.toList name.toList = true then kidT r name else if (s.toList == name.toList) = true then k else .nil
def putT : Tr → List ByteArray → Tr → Tr
  | _, [], x => x
  | t, p :: ps, x => t.withT p (putT (kidT t p) ps x)
def withoutT : Tr → ByteArray → Tr
  | .nil, _ => .nil
  | .cons s k r, name => if Op.bytesLess s.toList name.toList = true then .cons s k (withoutT r name) else if (s.toList == name.toList) = true then r else .cons s k r
def dropP : Tr → List ByteArray → Tr
  | _, [] => .nil
  | t, [p] => if t.atIs p = true then withoutT t p else t
  | t, p :: q :: ps => if t.atIs p = true then t.withT p (dropP (kidT t p) (q :: ps)) else t
def getT : Tr → List ByteArray → Tr × Bool
  | t, [] => (t, true)
  | t, p :: ps => if t.atIs p = true then getT (kidT t p) ps else (.nil, false)
/-- In order at each level. -/
def AscD : Tr → Prop
  | .nil => True
  | .cons s k r => (Tr.cons s k r).Asc ∧ AscD k ∧ AscD r
theorem AscD.asc : ∀ {t : Tr}, AscD t → t.Asc
  | .nil, _ => nil_asc
  | .cons _ _ _, h => h.1

section
variable {s name : ByteArray} {k r x y : Tr}
theorem kidT_lt (h : Op.bytesLess s.toList name.toList = true) : kidT (.cons s k r) name = kidT r name := by simp [kidT, h]
theorem kidT_eq (h : Op.bytesLess s.toList name.toList = false) (h2 : (s.toList == name.toList) = true) : kidT (.cons s k r) name = k := by simp only [kidT, h, h2]; simp
theorem kidT_gt (h : Op.bytesLess s.toList name.toList = false) (h2 : (s.toList == name.toList) = false) : kidT (.cons s k r) name = .nil := by simp only [kidT, h, h2]; simp
theorem withT_lt (h : Op.bytesLess s.toList name.toList = true) : (Tr.cons s k r).withT name x = .cons s k (r.withT name x) := by simp [Tr.withT, h]
theorem withT_eq (h : Op.bytesLess s.toList name.toList = false) (h2 : (s.toList == name.toList) = true) : (Tr.cons s k r).withT name x = .cons name x r := by simp only [Tr.withT, h, h2]; simp
theorem withT_gt (h : Op.bytesLess s.toList name.toList = false) (h2 : (s.toList == name.toList) = false) : (Tr.cons s k r).withT name x = .cons name x (.cons s k r) := by simp only [Tr.withT, h, h2]; simp
theorem atN_lt (h : Op.bytesLess s.toList name.toList = true) : (Tr.cons s k r).atN name = r.atN name + 1 := by simp [Tr.atN, h]
theorem atN_ge (h : Op.bytesLess s.toList name.toList = false) : (Tr.cons s k r).atN name = 0 := by simp [Tr.atN, h]
theorem atIs_lt (h : Op.bytesLess s.toList name.toList = true) : (Tr.cons s k r).atIs name = r.atIs name := by unfold Tr.atIs; rw [atN_lt h]; rfl
theorem atIs_ge (h : Op.bytesLess s.toList name.toList = false) : (Tr.cons s k r).atIs name = (s.toList == name.toList) := by unfold Tr.atIs; rw [atN_ge h]; rfl
theorem withoutT_lt (h : Op.bytesLess s.toList name.toList = true) : withoutT (.cons s k r) name = .cons s k (withoutT r name) := by simp [withoutT, h]
theorem withoutT_eq (h : Op.bytesLess s.toList name.toList = false) (h2 : (s.toList == name.toList) = true) : withoutT (.cons s k r) name = r := by simp only [withoutT, h, h2]; simp
theorem withoutT_gt (h : Op.bytesLess s.toList name.toList = false) (h2 : (s.toList == name.toList) = false) : withoutT (.cons s k r) name = .cons s k r := by simp only [withoutT, h, h2]; simp
end
/-- Names held against each other. -/
theorem cases3 (s name : ByteArray) : Op.bytesLess s.toList name.toList = true ∨ (Op.bytesLess s.toList name.toList = false ∧ (s.toList == name.toList) = true) ∨ (Op.bytesLess s.toList name.toList = false ∧ (s.toList == name.toList) = false ∧ Op.bytesLess name.toList s.toList = true) := by
  cases h : Op.bytesLess s.toList name.toList with
  | true => exact .inl rfl
  | false =>
    right
    cases h2 : (s.toList == name.toList) with
    | true => exact .inl ⟨rfl, rfl⟩
    | false =>
      refine .inr ⟨rfl, rfl, ?_⟩
      rcases not_lt h with h3 | ⟨_, h3⟩
      · exact h3
      · have := beq_iff_eq.1 h3
        rw [this, beq_self_eq_true] at h2
        cases h2
theorem names_of_eq {s name : ByteArray} (h : (s.toList == name.toList) = true) : s = name := bytes_eq (beq_iff_eq.1 h)
theorem self_not_lt (s : ByteArray) : Op.bytesLess s.toList s.toList = false := by
  cases h : Op.bytesLess s.toList s.toList with
  | false => rfl
  | true => exact absurd ((less_iff _ _).1 h) (List.lt_irrefl _)
theorem self_eq (s : ByteArray) : (s.toList == s.toList) = true := beq_self_eq_true _

theorem kidT_not : ∀ {t : Tr} {name : ByteArray}, t.atIs name = false → kidT t name = .nil
  | .nil, _, _ => rfl
  | .cons s k r, name, h => by
    rcases cases3 s name with h1 | ⟨h1, h2⟩ | ⟨h1, h2, _⟩
    · rw [kidT_lt h1]; exact kidT_not (by rw [← h, atIs_lt h1])
    · rw [atIs_ge h1, h2] at h; cases h
    · exact kidT_gt h1 h2
theorem kidT_size : ∀ (t : Tr) (name : ByteArray), (kidT t name).size ≤ t.size
  | .nil, _ => Nat.le_refl _
  | .cons s k r, name => by
    simp only [Tr.size]
    rcases cases3 s name with h1 | ⟨h1, h2⟩ | ⟨h1, h2, _⟩
    · rw [kidT_lt h1]; have := kidT_size r name; omega
    · rw [kidT_eq h1 h2]; omega
    · rw [kidT_gt h1 h2]; simp [Tr.size]
theorem kidT_asc : ∀ {t : Tr} {name : ByteArray}, AscD t → AscD (kidT t name)
  | .nil, _, _ => trivial
  | .cons s k r, name, ⟨_, h2, h3⟩ => by
    rcases cases3 s name with h1 | ⟨h1, h2'⟩ | ⟨h1, h2', _⟩
    · rw [kidT_lt h1]; exact kidT_asc h3
    · rw [kidT_eq h1 h2']; exact h2
    · rw [kidT_gt h1 h2']; trivial
theorem withT_ascD {name : ByteArray} {x : Tr} (hx : AscD x) : ∀ {t : Tr}, AscD t → AscD (t.withT name x)
  | .nil, _ => ⟨by have := withT_asc (name := name) (x := x) nil_asc; exact this, hx, trivial⟩
  | .cons s k r, ⟨h1, h2, h3⟩ => by
    have ha := withT_asc (name := name) (x := x) h1
    rcases cases3 s name with c1 | ⟨c1, c2⟩ | ⟨c1, c2, _⟩
    · rw [withT_lt c1] at ha ⊢; exact ⟨ha, h2, withT_ascD hx h3⟩
    · rw [withT_eq c1 c2] at ha ⊢; exact ⟨ha, hx, h3⟩
    · rw [withT_gt c1 c2] at ha ⊢; exact ⟨ha, hx, h1, h2, h3⟩
theorem putT_ascD {x : Tr} (hx : AscD x) : ∀ {ps : List ByteArray} {t : Tr}, AscD t → AscD (putT t ps x)
  | [], _, _ => hx
  | _ :: _, _, h => withT_ascD (putT_ascD hx (kidT_asc h)) h
theorem withoutT_mem {name : ByteArray} {y : List UInt8} : ∀ {t : Tr}, y ∈ (withoutT t name).bn → y ∈ t.bn
  | .nil, h => h
  | .cons s k r, h => by
    rcases cases3 s name with c1 | ⟨c1, c2⟩ | ⟨c1, c2, _⟩
    · rw [withoutT_lt c1, bn_cons, List.mem_cons] at h
      rw [bn_cons, List.mem_cons]
      exact h.imp id withoutT_mem
    · rw [withoutT_eq c1 c2] at h
      rw [bn_cons, List.mem_cons]
      exact .inr h
    · rw [withoutT_gt c1 c2] at h; exact h
theorem withoutT_ascD {name : ByteArray} : ∀ {t : Tr}, AscD t → AscD (withoutT t name)
  | .nil, _ => trivial
  | .cons s k r, ⟨h1, h2, h3⟩ => by
    rcases cases3 s name with c1 | ⟨c1, c2⟩ | ⟨c1, c2, _⟩
    · rw [withoutT_lt c1]
      refine ⟨?_, h2, withoutT_ascD h3⟩
      unfold Tr.Asc at h1 ⊢
      rw [bn_cons, List.pairwise_cons] at h1 ⊢
      exact ⟨fun y hy => h1.1 y (withoutT_mem hy), (withoutT_ascD h3).asc⟩
    · rw [withoutT_eq c1 c2]; exact h3
    · rw [withoutT_gt c1 c2]; exact ⟨h1, h2, h3⟩
theorem dropP_ascD : ∀ {ps : List ByteArray} {t : Tr}, AscD t → AscD (dropP t ps)
  | [], _, _ => trivial
  | [p], t, h => by
    unfold dropP
    split
    · exact withoutT_ascD h
    · exact h
  | p :: q :: ps, t, h => by
    unfold dropP
    split
    · exact withT_ascD (dropP_ascD (kidT_asc h)) h
    · exact h

/-! What is put at a name is found there; nothing else is another one. -/
theorem with_is {name : ByteArray} {x : Tr} : ∀ {t : Tr}, (t.withT name x).atIs name = true ∧ kidT (t.withT name x) name = x
  | .nil => by
    show (Tr.cons name x .nil).atIs name = true ∧ kidT (.cons name x .nil) name = x
    rw [atIs_ge (self_not_lt name), kidT_eq (self_not_lt name) (self_eq name)]
    exact ⟨self_eq name, rfl⟩
  | .cons s k r => by
    rcases cases3 s name with c1 | ⟨c1, c2⟩ | ⟨c1, c2, _⟩
    · rw [withT_lt c1, atIs_lt c1, kidT_lt c1]; exact with_is
    · rw [withT_eq c1 c2, atIs_ge (self_not_lt name), kidT_eq (self_not_lt name) (self_eq name)]; exact ⟨self_eq name, rfl⟩
    · rw [withT_gt c1 c2, atIs_ge (self_not_lt name), kidT_eq (self_not_lt name) (self_eq name)]; exact ⟨self_eq name, rfl⟩
theorem lt_trans' {a b c : ByteArray} (h : Op.bytesLess a.toList b.toList = true) (k : Op.bytesLess b.toList c.toList = true) : Op.bytesLess a.toList c.toList = true :=
  (less_iff _ _).2 (List.lt_trans ((less_iff _ _).1 h) ((less_iff _ _).1 k))
theorem with_other {name q : ByteArray} {x : Tr} (hne : (name.toList == q.toList) = false) : ∀ {t : Tr}, t.Asc → (t.withT name x).atIs q = t.atIs q ∧ kidT (t.withT name x) q = kidT t q
  | .nil, _ => by
    show (Tr.cons name x .nil).atIs q = _ ∧ kidT (.cons name x .nil) q = _
    rcases cases3 name q with c1 | ⟨c1, c2⟩ | ⟨c1, c2, _⟩
    · rw [atIs_lt c1, kidT_lt c1]; exact ⟨rfl, rfl⟩
    · rw [c2] at hne; cases hne
    · rw [atIs_ge c1, kidT_gt c1 c2, c2]; exact ⟨rfl, rfl⟩
  | .cons s k r, ha => by
    have ha' := ha
    unfold Tr.Asc at ha'
    rw [bn_cons, List.pairwise_cons] at ha'
    rcases cases3 s name with c1 | ⟨c1, c2⟩ | ⟨c1, c2, c3⟩
    · rw [withT_lt c1]
      rcases cases3 s q with d1 | ⟨d1, d2⟩ | ⟨d1, d2, _⟩
      · rw [atIs_lt d1, atIs_lt d1, kidT_lt d1, kidT_lt d1]; exact with_other hne (t := r) ha'.2
      · rw [atIs_ge d1, atIs_ge d1, kidT_eq d1 d2, kidT_eq d1 d2]; exact ⟨rfl, rfl⟩
      · rw [atIs_ge d1, atIs_ge d1, kidT_gt d1 d2, kidT_gt d1 d2]; exact ⟨rfl, rfl⟩
    · have e := names_of_eq c2
      subst e
      rw [withT_eq c1 c2]
      rcases cases3 s q with d1 | ⟨d1, d2⟩ | ⟨d1, d2, _⟩
      · rw [atIs_lt d1, atIs_lt d1, kidT_lt d1, kidT_lt d1]; exact ⟨rfl, rfl⟩
      · rw [d2] at hne; cases hne
      · rw [atIs_ge d1, atIs_ge d1, kidT_gt d1 d2, kidT_gt d1 d2]; exact ⟨rfl, rfl⟩
    · rw [withT_gt c1 c2]
      rcases cases3 name q with d1 | ⟨d1, d2⟩ | ⟨d1, d2, d3⟩
      · rw [atIs_lt d1, kidT_lt d1]; exact ⟨rfl, rfl⟩
      · rw [d2] at hne; cases hne
      · have d4 := lt_trans' d3 c3
        obtain ⟨d5, d6⟩ := lt_not d4
        rw [atIs_ge d1, kidT_gt d1 d2, d2, atIs_ge d5, d6, kidT_gt d5 d6]; exact ⟨rfl, rfl⟩
theorem get_put {x : Tr} : ∀ (ps : List ByteArray) (t : Tr), getT (putT t ps x) ps = (x, true)
  | [], _ => rfl
  | p :: ps, t => by
    rw [putT, getT, if_pos with_is.1, with_is.2]
    exact get_put ps _
theorem get_apart {x : Tr} {p q : ByteArray} {ps qs : List ByteArray} {t : Tr} (ha : t.Asc) (hne : (p.toList == q.toList) = false) : getT (putT t (p :: ps) x) (q :: qs) = getT t (q :: qs) := by
  obtain ⟨h1, h2⟩ := with_other (x := putT (kidT t p) ps x) hne ha
  rw [putT, getT, getT, h1, h2]
theorem with_with {name : ByteArray} {x y : Tr} : ∀ {t : Tr}, (t.withT name x).withT name y = t.withT name y
  | .nil => by
    show (Tr.cons name x .nil).withT name y = Tr.cons name y .nil
    rw [withT_eq (self_not_lt name) (self_eq name)]
  | .cons s k r => by
    rcases cases3 s name with c1 | ⟨c1, c2⟩ | ⟨c1, c2, _⟩
    · rw [withT_lt c1, withT_lt c1, withT_lt c1, with_with]
    · rw [withT_eq c1 c2, withT_eq c1 c2, withT_eq (self_not_lt name) (self_eq name)]
    · rw [withT_gt c1 c2, withT_gt c1 c2, withT_eq (self_not_lt name) (self_eq name)]
/-- Without what was just put. -/
theorem without_with {name : ByteArray} {x : Tr} : ∀ {t : Tr}, t.Asc → (withoutT (t.withT name x) name).atIs name = false ∧ (withoutT (t.withT name x) name).withT name x = t.withT name x
  | .nil, _ => by
    show (withoutT (Tr.cons name x .nil) name).atIs name = false ∧ (withoutT (Tr.cons name x .nil) name).withT name x = Tr.cons name x .nil
    rw [withoutT_eq (self_not_lt name) (self_eq name)]
    exact ⟨rfl, rfl⟩
  | .cons s k r, ha => by
    have ha' := ha
    unfold Tr.Asc at ha'
    rw [bn_cons, List.pairwise_cons] at ha'
    -- what stands behind is behind the name
    have hb : ∀ (r : Tr), (∀ y ∈ r.bn, name.data.toList < y) → r.atIs name = false ∧ r.withT name x = .cons name x r := by
      intro r hr
      cases r with
      | nil => exact ⟨rfl, rfl⟩
      | cons s2 k2 r2 =>
        have h1 := (less_iff name s2).2 (hr s2.data.toList (by rw [bn_cons]; exact List.mem_cons_self))
        obtain ⟨h2, h3⟩ := lt_not h1
        rw [atIs_ge h2, h3, withT_gt h2 h3]
        exact ⟨rfl, rfl⟩
    rcases cases3 s name with c1 | ⟨c1, c2⟩ | ⟨c1, c2, c3⟩
    · obtain ⟨h1, h2⟩ := without_with (name := name) (x := x) (t := r) ha'.2
      rw [withT_lt c1, withoutT_lt c1, atIs_lt c1, withT_lt c1, h2]
      exact ⟨h1, rfl⟩
    · have e := names_of_eq c2
      subst e
      rw [withT_eq c1 c2, withoutT_eq c1 c2]
      exact hb r ha'.1
    · rw [withT_gt c1 c2, withoutT_eq (self_not_lt name) (self_eq name)]
      refine hb _ fun y hy => ?_
      rw [bn_cons, List.mem_cons] at hy
      rcases hy with rfl | hy
      · exact (less_iff _ _).1 c3
      · exact List.lt_trans ((less_iff _ _).1 c3) (ha'.1 y hy)
theorem drop_put {x : Tr} : ∀ (ps : List ByteArray) (t : Tr), ps ≠ [] → AscD t → (getT (dropP (putT t ps x) ps) ps).2 = false ∧ putT (dropP (putT t ps x) ps) ps x = putT t ps x ∧ dropP (dropP (putT t ps x) ps) ps = dropP (putT t ps x) ps
  | [], _, h, _ => absurd rfl h
  | [p], t, _, ha => by
    obtain ⟨h1, h2⟩ := without_with (name := p) (x := x) ha.asc
    have e : dropP (putT t [p] x) [p] = withoutT (t.withT p x) p := by
      rw [show putT t [p] x = t.withT p x from rfl, dropP, if_pos with_is.1]
    rw [e]
    refine ⟨?_, ?_, ?_⟩
    · rw [getT, if_neg (by rw [h1]; simp)]
    · rw [show putT (withoutT (t.withT p x) p) [p] x = (withoutT (t.withT p x) p).withT p x from rfl, h2]
      rfl
    · rw [dropP, if_neg (by rw [h1]; simp)]
  | p :: q :: ps, t, _, ha => by
    obtain ⟨h1, h2, h3⟩ := drop_put (x := x) (q :: ps) (kidT t p) (by simp) (kidT_asc ha)
    have e : dropP (putT t (p :: q :: ps) x) (p :: q :: ps) = t.withT p (dropP (putT (kidT t p) (q :: ps) x) (q :: ps)) := by
      rw [putT, dropP, if_pos with_is.1, with_is.2, with_with]
    rw [e]
    refine ⟨?_, ?_, ?_⟩
    · rw [getT, if_pos with_is.1, with_is.2]; exact h1
    · rw [putT, with_is.2, with_with, h2, ← putT]
    · rw [dropP, if_pos with_is.1, with_is.2, with_with, h3]
end Go.Proofs.Ytchoipmfngcdoaa.Pt
namespace Go.Proofs.Ytchoipmfngcdoaa.Df
open Go.RowKit Go.Proofs.Ytchoipmfngcdoaa.Pt
set_option maxRecDepth 100000

theorem same_eq : ∀ {t u : Tr}, t.same u = true → t = u
  | .nil, .nil, _ => rfl
  | .cons s k r, .cons s' k' r', h => by
    simp only [Tr.same, Bool.and_eq_true, beq_iff_eq] at h
    rw [bytes_eq h.1.1, same_eq h.1.2, same_eq h.2]
  | .nil, .cons _ _ _, h => by simp [Tr.same] at h
  | .cons _ _ _, .nil, h => by simp [Tr.same] at h

/-- A name of its bytes. -/
def nb (l : List UInt8) : ByteArray := ⟨l.toArray⟩
theorem nb_data (s : ByteArray) : nb s.data.toList = s := by simp [nb]
theorem data_nb (l : List UInt8) : (nb l).data.toList = l := by simp [nb]
theorem nb_inj {a b : List UInt8} (h : nb a = nb b) : a = b := by rw [← data_nb a, h, data_nb]
/-- The names of both, in order. -/
def nsT (t u : Tr) : List ByteArray := (namesOf (t.names ++ u.names)).map nb
theorem is_mem {name : ByteArray} : ∀ {t : Tr}, t.atIs name = true → name ∈ t.names
  | .nil, h => by simp [Tr.atIs, Tr.atN, dropT_zero, Tr.headIs] at h
  | .cons s k r, h => by
    rcases cases3 s name with c1 | ⟨c1, c2⟩ | ⟨c1, c2, _⟩
    · rw [Pt.atIs_lt c1] at h
      exact List.mem_cons_of_mem _ (is_mem h)
    · rw [names_of_eq c2]
      exact List.mem_cons_self
    · rw [atIs_ge c1, c2] at h; cases h
theorem mem_is {name : ByteArray} {t : Tr} (ha : t.Asc) (h : name ∈ t.names) : t.atIs name = true := atIs_mem ha (List.mem_map_of_mem h)
theorem mem_ns {t u : Tr} {s : ByteArray} (ht : t.Asc) (hu : u.Asc) : s ∈ nsT t u ↔ (t.atIs s = true ∨ u.atIs s = true) := by
  have h : s ∈ nsT t u ↔ s ∈ t.names ++ u.names := by
    unfold nsT
    rw [List.mem_map]
    constructor
    · rintro ⟨l, hl, rfl⟩
      rw [namesOf_mem, List.mem_map] at hl
      obtain ⟨x, hx, rfl⟩ := hl
      rw [nb_data]
      exact hx
    · intro hs
      exact ⟨s.data.toList, (namesOf_mem _ _).2 (List.mem_map_of_mem hs), nb_data s⟩
  rw [h, List.mem_append]
  exact ⟨fun h => h.imp (mem_is ht) (mem_is hu), fun h => h.imp is_mem is_mem⟩
theorem ns_nodup (t u : Tr) : (nsT t u).Nodup := by
  unfold nsT List.Nodup
  rw [List.pairwise_map]
  exact (namesOf_pair _).imp fun h e => by rw [nb_inj e] at h; exact List.lt_irrefl _ h
theorem ns_comm (t u : Tr) : nsT t u = nsT u t :=
  congrArg (List.map nb) (asc_eq (namesOf_pair _) (namesOf_pair _) fun x => by
    rw [namesOf_mem, namesOf_mem, List.map_append, List.map_append, List.mem_append, List.mem_append]
    exact Or.comm)

/-- The paths at which they differ; N: how often it may go down. -/
def dP : Nat → Tr → Tr → List (List ByteArray)
  | 0, _, _ => []
  | N + 1, t, u => (nsT t u).flatMap fun s => if (t.atIs s && u.atIs s) = true then (dP N (kidT t s) (kidT u s)).map (s :: ·) else [[s]]
def dS (N : Nat) (t u : Tr) (s : ByteArray) : List (List ByteArray) := if (t.atIs s && u.atIs s) = true then (dP N (kidT t s) (kidT u s)).map (s :: ·) else [[s]]
theorem dP_succ (N : Nat) (t u : Tr) : dP (N + 1) t u = (nsT t u).flatMap (dS N t u) := rfl
theorem dS_both {N : Nat} {t u : Tr} {s : ByteArray} (h1 : t.atIs s = true) (h2 : u.atIs s = true) : dS N t u s = (dP N (kidT t s) (kidT u s)).map (s :: ·) := by rw [dS, if_pos (by rw [h1, h2]; rfl)]
theorem dS_one {N : Nat} {t u : Tr} {s : ByteArray} (h : (t.atIs s && u.atIs s) = false) : dS N t u s = [[s]] := by rw [dS, if_neg (by rw [h]; simp)]

theorem kid_lt : ∀ {t : Tr} {s : ByteArray}, t.atIs s = true → (kidT t s).size + 1 ≤ t.size
  | .nil, _, h => by simp [Tr.atIs, Tr.atN, dropT_zero, Tr.headIs] at h
  | .cons s0 k r, s, h => by
    simp only [Tr.size]
    rcases cases3 s0 s with c1 | ⟨c1, c2⟩ | ⟨c1, c2, _⟩
    · rw [Pt.atIs_lt c1] at h
      have := kid_lt h
      rw [kidT_lt c1]
      omega
    · rw [kidT_eq c1 c2]; omega
    · rw [atIs_ge c1, c2] at h; cases h
theorem nil_is (s : ByteArray) : Tr.nil.atIs s = false := by simp [Tr.atIs, Tr.atN, dropT_zero, Tr.headIs]
theorem head_is (s : ByteArray) (k r : Tr) : (Tr.cons s k r).atIs s = true ∧ kidT (.cons s k r) s = k := by
  rw [atIs_ge (self_not_lt s), kidT_eq (self_not_lt s) (self_eq s)]
  exact ⟨self_eq s, rfl⟩
/-- What stands behind an edge has names behind it. -/
theorem behind {s q : ByteArray} {k r : Tr} (h : (Tr.cons s k r).Asc) (hq : Op.bytesLess s.toList q.toList = false) : r.atIs q = false := by
  cases hr : r.atIs q with
  | false => rfl
  | true =>
    unfold Tr.Asc at h
    rw [bn_cons, List.pairwise_cons] at h
    have := h.1 _ (List.mem_map_of_mem (is_mem hr))
    rw [(less_iff _ _).2 this] at hq
    cases hq
theorem asc_tail {s : ByteArray} {k r : Tr} (h : (Tr.cons s k r).Asc) : r.Asc := by
  unfold Tr.Asc at h
  rw [bn_cons, List.pairwise_cons] at h
  exact h.2
/-- Trees with the same edges are one. -/
theorem ext_at : ∀ {t u : Tr}, t.Asc → u.Asc → (∀ s, t.atIs s = u.atIs s) → (∀ s, t.atIs s = true → kidT t s = kidT u s) → t = u
  | .nil, .nil, _, _, _, _ => rfl
  | .nil, .cons s k r, _, _, h, _ => by
    have := h s
    rw [nil_is, (head_is s k r).1] at this
    cases this
  | .cons s k r, .nil, _, _, h, _ => by
    have := h s
    rw [nil_is, (head_is s k r).1] at this
    cases this
  | .cons s k r, .cons s' k' r', ht, hu, h, hk => by
    have e : s = s' := by
      rcases cases3 s s' with c1 | ⟨_, c2⟩ | ⟨_, _, c3⟩
      · have h1 := h s
        obtain ⟨c4, c5⟩ := lt_not c1
        rw [(head_is s k r).1, atIs_ge c4, c5] at h1
        cases h1
      · exact names_of_eq c2
      · have h1 := h s'
        obtain ⟨c4, c5⟩ := lt_not c3
        rw [(head_is s' k' r').1, atIs_ge c4, c5] at h1
        cases h1
    subst e
    have e2 : k = k' := by
      have := hk s (head_is s k r).1
      rwa [(head_is s k r).2, (head_is s k' r').2] at this
    have e3 : r = r' := by
      refine ext_at (asc_tail ht) (asc_tail hu) (fun q => ?_) (fun q hq => ?_)
      · cases c1 : Op.bytesLess s.toList q.toList with
        | true =>
          have := h q
          rwa [Pt.atIs_lt c1, Pt.atIs_lt c1] at this
        | false => rw [behind ht c1, behind hu c1]
      · cases c1 : Op.bytesLess s.toList q.toList with
        | true =>
          have := hk q (by rw [Pt.atIs_lt c1]; exact hq)
          rwa [kidT_lt c1, kidT_lt c1] at this
        | false => rw [behind ht c1] at hq; cases hq
    rw [e2, e3]
theorem size_zero {t : Tr} (h : t.size = 0) : t = .nil := by
  cases t with
  | nil => rfl
  | cons s k r => simp [Tr.size] at h

theorem dP_self : ∀ (N : Nat) {t : Tr}, AscD t → dP N t t = []
  | 0, _, _ => rfl
  | N + 1, t, h => by
    rw [dP_succ, List.flatMap_eq_nil_iff]
    intro s hs
    have h1 : t.atIs s = true := ((mem_ns h.asc h.asc).1 hs).elim id id
    rw [dS_both h1 h1, dP_self N (kidT_asc h)]
    rfl
theorem dP_nil : ∀ (N : Nat) {t u : Tr}, t.size + u.size ≤ N → AscD t → AscD u → dP N t u = [] → t = u
  | 0, t, u, hz, _, _, _ => by rw [size_zero (by omega : t.size = 0), size_zero (by omega : u.size = 0)]
  | N + 1, t, u, hz, ht, hu, h => by
    rw [dP_succ, List.flatMap_eq_nil_iff] at h
    have key : ∀ s, (t.atIs s = true ∨ u.atIs s = true) → t.atIs s = true ∧ u.atIs s = true ∧ kidT t s = kidT u s := by
      intro s hs
      have h1 := h s ((mem_ns ht.asc hu.asc).2 hs)
      cases hb : (t.atIs s && u.atIs s) with
      | false => rw [dS_one hb] at h1; cases h1
      | true =>
        rw [Bool.and_eq_true] at hb
        rw [dS_both hb.1 hb.2, List.map_eq_nil_iff] at h1
        have z1 := kid_lt hb.1
        have z2 := kid_lt hb.2
        exact ⟨hb.1, hb.2, dP_nil N (by omega) (kidT_asc ht) (kidT_asc hu) h1⟩
    refine ext_at ht.asc hu.asc (fun s => ?_) (fun s hs => (key s (.inl hs)).2.2)
    cases h1 : t.atIs s with
    | true => exact (key s (.inl h1)).2.1.symm
    | false =>
      cases h2 : u.atIs s with
      | false => rfl
      | true => rw [(key s (.inr h2)).1] at h1; cases h1
theorem dP_same {N : Nat} {t u : Tr} (hz : t.size + u.size ≤ N) (ht : AscD t) (hu : AscD u) : decide ((dP N t u).length = 0) = t.same u := by
  cases h : t.same u with
  | true =>
    obtain rfl := same_eq h
    rw [dP_self N ht]
    rfl
  | false =>
    refine decide_eq_false fun e => ?_
    have := dP_nil N hz ht hu (List.eq_nil_of_length_eq_zero e)
    rw [this, same_refl] at h
    cases h
theorem get_one (t : Tr) (s : ByteArray) : (getT t [s]).2 = t.atIs s := by
  rw [getT]
  cases h : t.atIs s with
  | true => rw [if_pos rfl]; rfl
  | false => rw [if_neg (by simp)]
/-- At each one of the two has an edge, and the other one has not. -/
theorem dP_diff : ∀ (N : Nat) {t u : Tr}, AscD t → AscD u → ∀ p ∈ dP N t u, p ≠ [] ∧ (getT t p).2 ≠ (getT u p).2
  | 0, _, _, _, _, p, hp => by simp [dP] at hp
  | N + 1, t, u, ht, hu, p, hp => by
    rw [dP_succ, List.mem_flatMap] at hp
    obtain ⟨s, hs, hp⟩ := hp
    cases hb : (t.atIs s && u.atIs s) with
    | true =>
      rw [Bool.and_eq_true] at hb
      rw [dS_both hb.1 hb.2, List.mem_map] at hp
      obtain ⟨q, hq, rfl⟩ := hp
      refine ⟨by simp, ?_⟩
      rw [getT, getT, if_pos hb.1, if_pos hb.2]
      exact (dP_diff N (kidT_asc ht) (kidT_asc hu) q hq).2
    | false =>
      rw [dS_one hb, List.mem_singleton] at hp
      subst hp
      refine ⟨by simp, ?_⟩
      rcases (mem_ns ht.asc hu.asc).1 hs with h1 | h1
      · rw [h1, Bool.true_and] at hb
        rw [get_one, get_one, h1, hb]
        simp
      · rw [h1, Bool.and_true] at hb
        rw [get_one, get_one, h1, hb]
        simp
/-- None begins with another one. -/
theorem dP_apart : ∀ (N : Nat) (t u : Tr), (dP N t u).Pairwise fun p q => ¬ p <+: q ∧ ¬ q <+: p
  | 0, _, _ => List.Pairwise.nil
  | N + 1, t, u => by
    have hd : ∀ (s : ByteArray) (p : List ByteArray), p ∈ dS N t u s → ∃ q, p = s :: q := by
      intro s p hp
      unfold dS at hp
      split at hp
      · rw [List.mem_map] at hp
        obtain ⟨q, _, rfl⟩ := hp
        exact ⟨q, rfl⟩
      · rw [List.mem_singleton] at hp
        exact ⟨[], hp⟩
    rw [dP_succ, List.pairwise_flatMap]
    refine ⟨fun s _ => ?_, (ns_nodup t u).imp fun {a b} hab p hp q hq => ?_⟩
    · unfold dS
      split
      · rw [List.pairwise_map]
        refine (dP_apart N _ _).imp fun {p q} h => ⟨fun e => h.1 ?_, fun e => h.2 ?_⟩
        · exact (List.prefix_cons_inj _).1 e
        · exact (List.prefix_cons_inj _).1 e
      · exact List.pairwise_singleton _ _
    · obtain ⟨p', rfl⟩ := hd a p hp
      obtain ⟨q', rfl⟩ := hd b q hq
      exact ⟨fun e => hab (List.cons_prefix_cons.1 e).1, fun e => hab (List.cons_prefix_cons.1 e).1.symm⟩
theorem dP_comm : ∀ (N : Nat) (t u : Tr), dP N t u = dP N u t
  | 0, _, _ => rfl
  | N + 1, t, u => by
    rw [dP_succ, dP_succ, ns_comm t u]
    congr 1
    funext s
    rw [dS, dS, Bool.and_comm, dP_comm N]
theorem dP_fuel : ∀ (N M : Nat) {t u : Tr}, t.size + u.size ≤ N → t.size + u.size ≤ M → dP N t u = dP M t u
  | 0, M, t, u, h, _ => by
    rw [size_zero (by omega : t.size = 0), size_zero (by omega : u.size = 0), dP_self M (show AscD .nil from trivial)]
    rfl
  | N + 1, 0, t, u, _, h => by
    rw [size_zero (by omega : t.size = 0), size_zero (by omega : u.size = 0), dP_self (N + 1) (show AscD .nil from trivial)]
    rfl
  | N + 1, M + 1, t, u, h1, h2 => by
    rw [dP_succ, dP_succ]
    congr 1
    funext s
    cases hb : (t.atIs s && u.atIs s) with
    | false => rw [dS_one hb, dS_one hb]
    | true =>
      rw [Bool.and_eq_true] at hb
      have z1 := kid_lt hb.1
      have z2 := kid_lt hb.2
      rw [dS_both hb.1 hb.2, dS_both hb.1 hb.2, dP_fuel N M (by omega) (by omega)]

/-! How many there are. -/
def wt (t : Tr) (s : ByteArray) : Nat := if t.atIs s = true then (kidT t s).size + 1 else 0
theorem sum_le {α : Type} {f g : α → Nat} : ∀ {l : List α}, (∀ x ∈ l, f x ≤ g x) → (l.map f).sum ≤ (l.map g).sum
  | [], _ => Nat.le_refl _
  | x :: l, h => by
    have h1 := h x List.mem_cons_self
    have h2 := sum_le (l := l) fun y hy => h y (List.mem_cons_of_mem _ hy)
    simp only [List.map_cons, List.sum_cons]
    omega
theorem sum_add {α : Type} (f g : α → Nat) : ∀ l : List α, (l.map fun x => f x + g x).sum = (l.map f).sum + (l.map g).sum
  | [] => rfl
  | x :: l => by
    have := sum_add f g l
    simp only [List.map_cons, List.sum_cons]
    omega
theorem sum_one (s : ByteArray) (c : Nat) : ∀ {l : List ByteArray}, l.Nodup → (l.map fun q => if q = s then c else 0).sum ≤ c
  | [], _ => Nat.zero_le _
  | q :: l, h => by
    rw [List.nodup_cons] at h
    simp only [List.map_cons, List.sum_cons]
    by_cases e : q = s
    · subst e
      rw [if_pos rfl]
      have : (l.map fun x => if x = q then c else 0).sum = 0 := by
        have hz : ∀ l : List ByteArray, q ∉ l → (l.map fun x => if x = q then c else 0).sum = 0 := by
          intro l
          induction l with
          | nil => intro _; rfl
          | cons a l ih =>
            intro hq
            rw [List.mem_cons, not_or] at hq
            simp only [List.map_cons, List.sum_cons]
            rw [if_neg (fun e => hq.1 e.symm), ih hq.2]
        exact hz l h.1
      omega
    · rw [if_neg e]
      have := sum_one s c h.2
      omega
theorem wt_sum : ∀ (t : Tr) {l : List ByteArray}, l.Nodup → (l.map (wt t)).sum ≤ t.size
  | .nil, l, _ => by
    have : (l.map (wt .nil)).sum ≤ (l.map fun _ => 0).sum := sum_le fun q _ => by rw [wt, nil_is]; simp
    have h0 : ∀ l : List ByteArray, (l.map fun _ => 0).sum = 0 := fun l => by
      induction l with
      | nil => rfl
      | cons a l ih => rw [List.map_cons, List.sum_cons, ih]
    have h0 := h0 l
    simp only [Tr.size]
    omega
  | .cons s k r, l, h => by
    have h1 : (l.map (wt (.cons s k r))).sum ≤ (l.map fun q => (if q = s then k.size + 1 else 0) + wt r q).sum := sum_le fun q _ => by
      unfold wt
      rcases cases3 s q with c1 | ⟨c1, c2⟩ | ⟨c1, c2, _⟩
      · rw [Pt.atIs_lt c1, kidT_lt c1]; omega
      · rw [← names_of_eq c2, (head_is s k r).1, (head_is s k r).2, if_pos rfl, if_pos rfl]; omega
      · rw [atIs_ge c1, c2, if_neg (by simp)]; omega
    have h2 := sum_add (fun q => if q = s then k.size + 1 else 0) (wt r) l
    have h3 := sum_one s (k.size + 1) h
    have h4 := wt_sum r h
    simp only [Tr.size]
    omega
theorem dP_len : ∀ (N : Nat) {t u : Tr}, AscD t → AscD u → (dP N t u).length ≤ t.size + u.size
  | 0, _, _, _, _ => Nat.zero_le _
  | N + 1, t, u, ht, hu => by
    have h1 := sum_le (l := nsT t u) (f := fun s => (dS N t u s).length) (g := fun s => wt t s + wt u s) fun s hs => by
      cases hb : (t.atIs s && u.atIs s) with
      | true =>
        rw [Bool.and_eq_true] at hb
        have := dP_len N (kidT_asc (name := s) ht) (kidT_asc (name := s) hu)
        rw [dS_both hb.1 hb.2, List.length_map, wt, wt, if_pos hb.1, if_pos hb.2]
        omega
      | false =>
        rw [dS_one hb]
        rcases (mem_ns ht.asc hu.asc).1 hs with h1 | h1
        · rw [wt, if_pos h1]; simp only [List.length_cons, List.length_nil]; omega
        · rw [wt, wt, if_pos h1]; simp only [List.length_cons, List.length_nil]; omega
    have h2 := sum_add (wt t) (wt u) (nsT t u)
    have h3 := wt_sum t (ns_nodup t u)
    have h4 := wt_sum u (ns_nodup t u)
    rw [dP_succ, List.length_flatMap]
    omega
theorem dP_short : ∀ (N : Nat) (t u : Tr), ∀ p ∈ dP N t u, p.length ≤ N
  | 0, _, _, p, hp => by simp [dP] at hp
  | N + 1, t, u, p, hp => by
    rw [dP_succ, List.mem_flatMap] at hp
    obtain ⟨s, _, hp⟩ := hp
    unfold dS at hp
    split at hp
    · rw [List.mem_map] at hp
      obtain ⟨q, hq, rfl⟩ := hp
      have := dP_short N _ _ q hq
      simp only [List.length_cons]
      omega
    · rw [List.mem_singleton] at hp
      subst hp
      simp
end Go.Proofs.Ytchoipmfngcdoaa.Df
