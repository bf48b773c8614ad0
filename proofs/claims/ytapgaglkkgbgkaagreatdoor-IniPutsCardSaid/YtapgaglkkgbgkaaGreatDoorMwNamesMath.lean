/- Names in order, each once: what sorting and leaving out makes; trees whose edges stand in order. No conditions. · tree.find at edges that stand in order: where the edge of that name stands or would stand, and whether it is there. No conditions. · Trees and paths: what is below a path, with something put there, without it. No conditions. · Put of the reference. Conditions: fewer edges than 2^38. · Without and Drop of the reference. Conditions: fewer edges than 2^38. -/
import Derived.Test.YtapgaglkkgbgkaaGreatDoorNames
import Derived.Test.YtapgaglkkgbgkaaGreatDoorMwEdg
import Derived.Test.YtapgaglkkgbgkaaGreatDoorWithW
import Derived.Deep.RegionHeld3
import Derived.IntWalk
import Derived.Outline
namespace Go.Proofs.YtapgaglkkgbgkaaGreatDoor
open Go.RowKit

def Tr.bn (t : Tr) : List (List UInt8) := t.names.map (·.data.toList)
theorem bn_cons (s : ByteArray) (k r : Tr) : (Tr.cons s k r).bn = s.data.toList :: r.bn := rfl
def Tr.Asc (t : Tr) : Prop := t.bn.Pairwise (· < ·)
theorem bytes_eq {s t : ByteArray} (h : s.toList = t.toList) : s = t := by
  rw [ByteArray.toList_eq, ByteArray.toList_eq] at h
  exact ByteArray.ext (Array.toList_inj.1 h)
theorem less_iff (x y : ByteArray) : Op.bytesLess x.toList y.toList = true ↔ x.data.toList < y.data.toList := by
  rw [Go.Proofs.bytesLess_eq, ByteArray.toList_eq, ByteArray.toList_eq, decide_eq_true_iff]

theorem withT_mem {name : ByteArray} {x : Tr} {y : List UInt8} : ∀ {t : Tr}, y ∈ (t.withT name x).bn → y = name.data.toList ∨ y ∈ t.bn
  | .nil, h => by simp only [Tr.withT, bn_cons, List.mem_cons] at h; exact h
  | .cons s k r, h => by
    unfold Tr.withT at h
    split at h
    · rw [bn_cons, List.mem_cons] at h
      rcases h with rfl | h
      · right; rw [bn_cons]; exact List.mem_cons_self
      · rcases withT_mem h with e | e
        · exact .inl e
        · right; rw [bn_cons]; exact List.mem_cons_of_mem _ e
    · split at h
      · rw [bn_cons, List.mem_cons] at h
        rcases h with e | h
        · exact .inl e
        · right; rw [bn_cons]; exact List.mem_cons_of_mem _ h
      · rw [bn_cons, List.mem_cons] at h
        exact h
theorem withT_asc {name : ByteArray} {x : Tr} : ∀ {t : Tr}, t.Asc → (t.withT name x).Asc
  | .nil, _ => by unfold Tr.Asc; simp [Tr.withT, Tr.bn, Tr.names]
  | .cons s k r, h => by
    unfold Tr.Asc at h
    rw [bn_cons, List.pairwise_cons] at h
    unfold Tr.withT
    split
    · rename_i hl
      unfold Tr.Asc
      rw [bn_cons, List.pairwise_cons]
      refine ⟨fun y hy => ?_, withT_asc (t := r) h.2⟩
      rcases withT_mem hy with rfl | e
      · exact (less_iff _ _).1 hl
      · exact h.1 y e
    · rename_i hl
      split
      · rename_i he
        have he := bytes_eq (beq_iff_eq.1 he)
        subst he
        unfold Tr.Asc
        rw [bn_cons, List.pairwise_cons]
        exact h
      · rename_i he
        have h1 : name.data.toList < s.data.toList := by
          rcases List.le_total s.data.toList name.data.toList with h2 | h2
          · by_cases h3 : name.data.toList ≤ s.data.toList
            · have := List.le_antisymm h2 h3
              rw [← ByteArray.toList_eq, ← ByteArray.toList_eq] at this
              exact absurd (beq_iff_eq.2 this) he
            · exact absurd ((less_iff _ _).2 (by simpa using h3)) hl
          · by_cases h3 : s.data.toList ≤ name.data.toList
            · have := List.le_antisymm h3 h2
              rw [← ByteArray.toList_eq, ← ByteArray.toList_eq] at this
              exact absurd (beq_iff_eq.2 this) he
            · simpa using h3
        unfold Tr.Asc
        rw [bn_cons, bn_cons, List.pairwise_cons, List.pairwise_cons]
        refine ⟨fun y hy => ?_, h⟩
        rcases List.mem_cons.1 hy with rfl | e
        · exact h1
        · exact List.lt_trans h1 (h.1 y e)
theorem nil_asc : Tr.nil.Asc := List.Pairwise.nil
theorem atIs_mem {name : ByteArray} : ∀ {t : Tr}, t.Asc → name.data.toList ∈ t.bn → t.atIs name = true
  | .nil, _, h => by simp [Tr.bn, Tr.names] at h
  | .cons s k r, ha, h => by
    unfold Tr.Asc at ha
    rw [bn_cons, List.pairwise_cons] at ha
    rw [bn_cons, List.mem_cons] at h
    unfold Tr.atIs
    by_cases hl : Op.bytesLess s.toList name.toList = true
    · have hlt := (less_iff _ _).1 hl
      simp only [Tr.atN]
      rw [if_pos hl]
      rcases h with e | h
      · rw [e] at hlt
        exact absurd hlt (List.lt_irrefl _)
      · exact atIs_mem (t := r) ha.2 h
    · simp only [Tr.atN]
      rw [if_neg hl]
      rcases h with e | h
      · have e2 : s = name := ByteArray.ext (Array.toList_inj.1 e.symm)
        subst e2
        rw [dropT_zero]
        simp [Tr.headIs]
      · exact absurd ((less_iff _ _).2 (ha.1 _ h)) hl

theorem upTo_facts (zs : List (List UInt8)) (h : zs.Pairwise (· ≤ ·)) : ∀ m, m ≤ zs.length →
    (Go.Lib.compactUpTo zs.toArray m).Pairwise (· < ·) ∧ (∀ x ∈ Go.Lib.compactUpTo zs.toArray m, ∃ j, j < m ∧ x = zs.toArray[j]!) ∧ ∀ j, j < m → zs.toArray[j]! ∈ Go.Lib.compactUpTo zs.toArray m := by
  have hle : ∀ i j, i ≤ j → j < zs.length → zs.toArray[i]! ≤ zs.toArray[j]! := by
    intro i j hij hj
    rw [getElem!_pos _ i (by simp; omega), getElem!_pos _ j (by simpa using hj)]
    simp only [List.getElem_toArray]
    rcases Nat.lt_or_ge i j with g | g
    · exact List.pairwise_iff_getElem.1 h i j (by omega) hj g
    · obtain rfl : i = j := by omega
      exact List.le_refl _
  intro m
  induction m with
  | zero => intro _; exact ⟨by simp [Go.Lib.compactUpTo], by simp [Go.Lib.compactUpTo], by intro j hj; omega⟩
  | succ m ih =>
    intro hm
    obtain ⟨h1, h2, h3⟩ := ih (by omega)
    rw [Go.Lib.compactUpTo_succ]
    by_cases hk : Go.Lib.keeps zs.toArray m = true
    · rw [if_pos hk]
      have hk' := of_decide_eq_true hk
      refine ⟨?_, ?_, ?_⟩
      · rw [List.pairwise_append]
        refine ⟨h1, List.pairwise_singleton _ _, fun x hx y hy => ?_⟩
        obtain ⟨j, hj, rfl⟩ := h2 x hx
        rw [List.mem_singleton] at hy
        subst hy
        rcases hk' with e | e
        · omega
        · have a1 := hle j (m - 1) (by omega) (by omega)
          have a2 := hle (m - 1) m (by omega) (by omega)
          refine List.lt_of_le_of_lt a1 ?_
          by_cases h4 : zs.toArray[m]! ≤ zs.toArray[m - 1]!
          · exact absurd (List.le_antisymm h4 a2) e
          · simpa using h4
      · intro x hx
        rw [List.mem_append, List.mem_singleton] at hx
        rcases hx with hx | rfl
        · obtain ⟨j, hj, e⟩ := h2 x hx
          exact ⟨j, by omega, e⟩
        · exact ⟨m, by omega, rfl⟩
      · intro j hj
        rw [List.mem_append, List.mem_singleton]
        by_cases e : j = m
        · right; rw [e]
        · left; exact h3 j (by omega)
    · rw [if_neg hk, List.append_nil]
      have hk' : ¬ (m = 0 ∨ zs.toArray[m]! ≠ zs.toArray[m - 1]!) := fun e => hk (decide_eq_true e)
      refine ⟨h1, fun x hx => ?_, fun j hj => ?_⟩
      · obtain ⟨j, hj, e⟩ := h2 x hx
        exact ⟨j, by omega, e⟩
      · by_cases e : j = m
        · subst e
          have e1 : zs.toArray[j]! = zs.toArray[j - 1]! := Classical.byContradiction fun h => hk' (.inr h)
          rw [e1]
          exact h3 (j - 1) (by omega)
        · exact h3 j (by omega)
theorem sorted_pair (ss : List (List UInt8)) : (sorted ss).Pairwise (· ≤ ·) :=
  (List.pairwise_mergeSort (le := fun x y => decide (x ≤ y)) (fun a b c h1 h2 => by simp only [decide_eq_true_eq] at *; exact List.le_trans h1 h2) (fun a b => by simp only [Bool.or_eq_true, decide_eq_true_eq]; exact List.le_total a b) ss).imp (fun h => of_decide_eq_true h)
theorem namesOf_pair (L : List ByteArray) : (namesOf L).Pairwise (· < ·) :=
  (upTo_facts _ (sorted_pair _) _ (Nat.le_refl _)).1
theorem namesOf_mem (L : List ByteArray) (x : List UInt8) : x ∈ namesOf L ↔ x ∈ L.map (·.data.toList) := by
  obtain ⟨_, h2, h3⟩ := upTo_facts _ (sorted_pair (L.map (·.data.toList))) _ (Nat.le_refl _)
  have hp : ∀ y, y ∈ sorted (L.map (·.data.toList)) ↔ y ∈ L.map (·.data.toList) := fun y => List.mem_mergeSort
  rw [← hp]
  constructor
  · intro hx
    obtain ⟨j, hj, rfl⟩ := h2 x hx
    rw [getElem!_pos _ j (by simpa using hj)]
    simp
  · intro hx
    obtain ⟨j, hj, rfl⟩ := List.getElem_of_mem hx
    have := h3 j hj
    rw [getElem!_pos _ j (by simpa using hj), List.getElem_toArray] at this
    exact this
theorem len_le {α : Type} [DecidableEq α] : ∀ (l m : List α), l.Nodup → (∀ x ∈ l, x ∈ m) → l.length ≤ m.length
  | [], m, _, _ => Nat.zero_le _
  | a :: l, m, hd, hs => by
    rw [List.nodup_cons] at hd
    have ha := hs a List.mem_cons_self
    have := len_le l (m.erase a) hd.2 (fun x hx => (List.mem_erase_of_ne (fun e => hd.1 (by rw [← e]; exact hx))).2 (hs x (List.mem_cons_of_mem _ hx)))
    rw [List.length_erase_of_mem ha] at this
    have : 0 < m.length := List.length_pos_of_mem ha
    simp only [List.length_cons]
    omega
theorem asc_nodup {l : List (List UInt8)} (h : l.Pairwise (· < ·)) : l.Nodup :=
  h.imp (fun h e => by rw [e] at h; exact List.lt_irrefl _ h)
theorem asc_eq : ∀ {l m : List (List UInt8)}, l.Pairwise (· < ·) → m.Pairwise (· < ·) → (∀ x, x ∈ l ↔ x ∈ m) → l = m
  | [], [], _, _, _ => rfl
  | [], b :: m, _, _, h => by have := (h b).2 List.mem_cons_self; simp at this
  | a :: l, [], _, _, h => by have := (h a).1 List.mem_cons_self; simp at this
  | a :: l, b :: m, hl, hm, h => by
    rw [List.pairwise_cons] at hl hm
    have e : a = b := by
      have h1 := (h a).1 List.mem_cons_self
      have h2 := (h b).2 List.mem_cons_self
      rw [List.mem_cons] at h1 h2
      rcases h1 with e | h1
      · exact e
      · rcases h2 with e | h2
        · exact e.symm
        · exact absurd (List.lt_trans (hl.1 b h2) (hm.1 a h1)) (List.lt_irrefl _)
    subst e
    rw [asc_eq hl.2 hm.2 (fun x => ?_)]
    have := h x
    rw [List.mem_cons, List.mem_cons] at this
    constructor
    · intro hx
      rcases this.1 (.inr hx) with e | e
      · subst e; exact absurd (hl.1 _ hx) (List.lt_irrefl _)
      · exact e
    · intro hx
      rcases this.2 (.inr hx) with e | e
      · subst e; exact absurd (hm.1 _ hx) (List.lt_irrefl _)
      · exact e
end Go.Proofs.YtapgaglkkgbgkaaGreatDoor
namespace Go.Proofs.YtapgaglkkgbgkaaGreatDoor
open Go.RowKit
set_option maxRecDepth 100000

theorem asc_at {name : ByteArray} : ∀ {t : Tr} {k : Nat} {s : ByteArray}, t.Asc → t.names[k]? = some s → (Op.bytesLess s.toList name.toList = true ↔ k < t.atN name)
  | .nil, _, _, _, h => by simp [Tr.names] at h
  | .cons s0 k0 r, 0, s, ha, h => by
    simp only [Tr.names, List.getElem?_cons_zero, Option.some.injEq] at h
    subst h
    simp only [Tr.atN]
    split
    · rename_i hl; simp [hl]
    · rename_i hl; simp [hl]
  | .cons s0 k0 r, k + 1, s, ha, h => by
    simp only [Tr.names, List.getElem?_cons_succ] at h
    have ha' := ha
    unfold Tr.Asc at ha'
    rw [bn_cons, List.pairwise_cons] at ha'
    simp only [Tr.atN]
    split
    · rw [asc_at (t := r) ha'.2 h]
      omega
    · rename_i hl
      constructor
      · intro hs
        have hm : s.data.toList ∈ r.bn := List.mem_map.2 ⟨s, List.mem_of_getElem? h, rfl⟩
        exact absurd ((less_iff _ _).2 (List.lt_trans (ha'.1 _ hm) ((less_iff _ _).1 hs))) hl
      · intro hs; omega
theorem asc_eqn {name : ByteArray} : ∀ {t : Tr} {k : Nat}, t.Asc → t.names[k]? = some name → k = t.atN name
  | .nil, _, _, h => by simp [Tr.names] at h
  | .cons s0 k0 r, 0, ha, h => by
    simp only [Tr.names, List.getElem?_cons_zero, Option.some.injEq] at h
    subst h
    simp only [Tr.atN]
    rw [if_neg (fun e => List.lt_irrefl _ ((less_iff _ _).1 e))]
  | .cons s0 k0 r, k + 1, ha, h => by
    simp only [Tr.names, List.getElem?_cons_succ] at h
    unfold Tr.Asc at ha
    rw [bn_cons, List.pairwise_cons] at ha
    have hm : name.data.toList ∈ r.bn := List.mem_map.2 ⟨name, List.mem_of_getElem? h, rfl⟩
    simp only [Tr.atN]
    rw [if_pos ((less_iff _ _).2 (ha.1 _ hm)), asc_eqn (t := r) ha.2 h]
theorem at_there {name : ByteArray} : ∀ {t : Tr} {k : Nat} {s : ByteArray}, t.names[k]? = some s → k = t.atN name → t.atIs name = (s.toList == name.toList)
  | .nil, _, _, h, _ => by simp [Tr.names] at h
  | .cons s0 k0 r, k, s, h, hk => by
    unfold Tr.atIs
    simp only [Tr.atN] at hk ⊢
    split at hk
    · rename_i hl
      subst hk
      rw [if_pos hl]
      simp only [Tr.names, List.getElem?_cons_succ] at h
      exact at_there (t := r) h rfl
    · rename_i hl
      subst hk
      rw [if_neg hl]
      simp only [Tr.names, List.getElem?_cons_zero, Option.some.injEq] at h
      subst h
      rw [dropT_zero]
      rfl
theorem drop_names {t r kt : Tr} {k : Nat} {s : ByteArray} (hd : t.dropT k = .cons s kt r) : t.names[k]? = some s := by
  have h1 := names_drop t k
  rw [hd] at h1
  have := congrArg (·[0]?) h1
  simp [Tr.names] at this
  exact this.symm

set_option maxHeartbeats 2000000 in
theorem find_any (t : Tr) (ha : t.Asc) (A : Option Addr) (n c B : Nat) (name : ByteArray) (w : World) (h : Holds w B A n t) (hB : B ≤ w.heap.size) (hn : n ≤ 140737488351232) :
    Calls Tryz.prog 100 #[.slice A n c, .string name] w fun e w' => e = .returned (.tuple #[.int .i64 (t.atN name : Nat), .bool (t.atIs name)]) ∧ Below B w w' := by
  have Hn := Lib.hid h.len
  have hle := atN_le name t
  rw [← Hn.out] at hle
  have Hlt := Lib.hid (fun e => atIs_lt (name := name) (t := t) e)
  obtain ⟨p, hp⟩ : ∃ p, p = t.atN name := ⟨_, rfl⟩
  obtain ⟨v, hv⟩ : ∃ v, v = t.atIs name := ⟨_, rfl⟩
  have Hat := Lib.hid (fun (k : Nat) (s : ByteArray) (h : t.names[k]? = some s) => asc_at (name := name) ha h)
  have Hth := Lib.hid (fun (k : Nat) (s : ByteArray) (h : t.names[k]? = some s) => at_there (name := name) (k := k) h)
  have Heq := Lib.hid (fun (k : Nat) (h : t.names[k]? = some name) => asc_eqn (name := name) ha h)
  rw [← hp] at hle Hlt Hat Hth Heq ⊢
  rw [← hv] at Hlt Hth ⊢
  clear hp hv
  go_enter Tryz.func100, Tryz.ntmps100
  go_wp2_with fail
  go_loopw [6, 13] (fun a i wr => ∃ (k at' : Nat), k ≤ n ∧ i = .int .i64 k ∧ a = .int .i64 at' ∧ Hid (k ≤ p → at' = n) ∧ Hid (p < k → at' = p ∧ v = false) ∧ Below B w wr) (fun _ i _ => n - (intOf i).toNat)
  case atStart => exact ⟨0, n, Nat.zero_le _, rfl, rfl, Lib.hid (fun _ => rfl), Lib.hid (fun h => by omega), Below.refl _ _⟩
  case round =>
    obtain ⟨k, q, hk, rfl, rfl, H1, H2, hbw⟩ := hrel
    by_cases hlt : k < n
    · obtain ⟨b, o, s, kt, r, A', n', c', rfl, hb, hs, hc, hn', hc', hk', hr, hd, hd2⟩ := (h.below hbw).split k hlt
      have hnm := drop_names hd
      have hkn : (k : Int) < (n : Int) := by omega
      have hk0 : (0 : Int) ≤ (k : Int) := by omega
      have hat := Hat.out k s hnm
      have hth := Hth.out k s hnm
      have HkN := Lib.hid hlt
      have hsz := hbw.size
      have hbr := hbw.alloc (Nat.le_trans hB hsz) (Obj.cells #[Value.string s, Value.slice A' n' c'] 56)
      by_cases he : s.toList = name.toList
      · have hs0 := bytes_eq he
        subst hs0
        have hkp := Heq.out k hnm
        subst hkp
        have hv := hth rfl
        rw [beq_self_eq_true] at hv
        subst hv
        clear hat hth hd hd2 hnm H1 H2 hlt
        have he2 : (s.toList == s.toList) = true := by simp
        go_wp2_with fail
        go_ret2
        exact ⟨rfl, hbr⟩
      · have he2 : (s.toList == name.toList) = false := by simpa using he
        cases hl : Op.bytesLess s.toList name.toList with
        | true =>
          have hkp := hat.1 hl
          have hq := H1.out (by omega)
          subst hq
          have Hkp := Lib.hid hkp
          clear hat hth hd hd2 hnm H1 H2 hlt hkp he
          go_wp2_with fail
          go_roundw
          case rel => exact ⟨k + 1, q, by have := HkN.out; omega, by go_num, rfl, Lib.hid (fun _ => rfl), Lib.hid (fun g => by have := Hkp.out; omega), hbr⟩
          case measure => have := HkN.out; simp [intOf]; omega
        | false =>
          have hpk : p ≤ k := by
            rcases Nat.lt_or_ge k p with g | g
            · rw [hat.2 g] at hl; cases hl
            · exact g
          rcases Nat.lt_or_ge p k with g | g
          · obtain ⟨rfl, hv⟩ := H2.out g
            have Hv := Lib.hid hv
            have hmin : ((k : Int) < (q : Int)) = False := by simp; omega
            have hmin2 : ¬ ((k : Int) < (q : Int)) := by omega
            have hmin3 : ¬ (k < q) := by omega
            have Hg := Lib.hid g
            clear hat hth hd hd2 hnm H1 H2 hlt he hv hpk g
            go_wp2_with fail
            go_roundw
            case rel => exact ⟨k + 1, q, by have := HkN.out; omega, by go_num, by go_num, Lib.hid (fun g2 => by have := Hg.out; omega), Lib.hid (fun _ => ⟨rfl, Hv.out⟩), hbr⟩
            case measure => have := HkN.out; simp [intOf]; omega
          · obtain rfl : k = p := by omega
            obtain rfl := H1.out (Nat.le_refl _)
            have hv := hth rfl
            rw [he2] at hv
            have Hv := Lib.hid hv
            have hmin2 : ((k : Int) < (q : Int)) := hkn
            have hmin3 : k < q := by omega
            clear hat hth hd hd2 hnm H1 H2 he hv hpk g
            go_wp2_with fail
            go_roundw
            case rel => exact ⟨k + 1, k, by have := HkN.out; omega, by go_num, by go_num, Lib.hid (fun g2 => by omega), Lib.hid (fun _ => ⟨rfl, Hv.out⟩), hbr⟩
            case measure => have := HkN.out; simp [intOf]; omega
    · obtain rfl : k = n := by omega
      have hvp : q = p ∧ v = false := by
        rcases Nat.lt_or_ge p k with g | g
        · exact H2.out g
        · have hq := H1.out g
          refine ⟨by omega, ?_⟩
          cases v with
          | false => rfl
          | true => have := Hlt.out rfl; rw [← Hn.out] at this; omega
      obtain ⟨rfl, rfl⟩ := hvp
      have hkk : ¬ ((k : Int) < (k : Int)) := by omega
      clear H1 H2 hlt
      go_wp2_with fail
      go_ret2
      exact ⟨rfl, hbw⟩
end Go.Proofs.YtapgaglkkgbgkaaGreatDoor
namespace Go.Proofs.YtapgaglkkgbgkaaGreatDoor.Pt
open Go.RowKit Go.Proofs.YtapgaglkkgbgkaaGreatDoor.Jd Go.Proofs.YtapgaglkkgbgkaaGreatDoor.Cl
set_option maxRecDepth 100000

def kidT : Tr → ByteArray → Tr
  | .nil, _ => .nil
  | .cons s k r, name => if Op.bytesLess s.toList name.toList = true then kidT r name else if (s.toList == name.toList) = true then k else .nil
def putT : Tr → List ByteArray → Tr → Tr
  | _, [], x => x
  | t, p :: ps, x => t.withT p (putT (kidT t p) ps x)
def withoutT : Tr → ByteArray → Tr
  | .nil, _ => .nil
  | .cons s k r, name => if Op.bytesLess s.toList name.toList = true then .cons s k (withoutT r name) else if (s.toList == name.toList) = true then r else .cons s k r
def dropP : Tr → List ByteArray → Tr
  | _, [] => .nil
  | t, [p] => if t.atIs p = true then withoutT t p else t
  | t, p :: q :: ps => if t.atIs p = true then t.withT p (dropP (kidT t p) (q :: ps)) else t
def getT : Tr → List ByteArray → Tr × Bool
  | t, [] => (t, true)
  | t, p :: ps => if t.atIs p = true then getT (kidT t p) ps else (.nil, false)
def AscD : Tr → Prop
  | .nil => True
  | .cons s k r => (Tr.cons s k r).Asc ∧ AscD k ∧ AscD r
theorem AscD.asc : ∀ {t : Tr}, AscD t → t.Asc
  | .nil, _ => nil_asc
  | .cons _ _ _, h => h.1

section
variable {s name : ByteArray} {k r x y : Tr}
theorem kidT_lt (h : Op.bytesLess s.toList name.toList = true) : kidT (.cons s k r) name = kidT r name := by simp [kidT, h]
theorem kidT_eq (h : Op.bytesLess s.toList name.toList = false) (h2 : (s.toList == name.toList) = true) : kidT (.cons s k r) name = k := by simp only [kidT, h, h2]; simp
theorem kidT_gt (h : Op.bytesLess s.toList name.toList = false) (h2 : (s.toList == name.toList) = false) : kidT (.cons s k r) name = .nil := by simp only [kidT, h, h2]; simp
theorem withT_lt (h : Op.bytesLess s.toList name.toList = true) : (Tr.cons s k r).withT name x = .cons s k (r.withT name x) := by simp [Tr.withT, h]
theorem withT_eq (h : Op.bytesLess s.toList name.toList = false) (h2 : (s.toList == name.toList) = true) : (Tr.cons s k r).withT name x = .cons name x r := by simp only [Tr.withT, h, h2]; simp
theorem withT_gt (h : Op.bytesLess s.toList name.toList = false) (h2 : (s.toList == name.toList) = false) : (Tr.cons s k r).withT name x = .cons name x (.cons s k r) := by simp only [Tr.withT, h, h2]; simp
theorem atN_lt (h : Op.bytesLess s.toList name.toList = true) : (Tr.cons s k r).atN name = r.atN name + 1 := by simp [Tr.atN, h]
theorem atN_ge (h : Op.bytesLess s.toList name.toList = false) : (Tr.cons s k r).atN name = 0 := by simp [Tr.atN, h]
theorem atIs_lt (h : Op.bytesLess s.toList name.toList = true) : (Tr.cons s k r).atIs name = r.atIs name := by unfold Tr.atIs; rw [atN_lt h]; rfl
theorem atIs_ge (h : Op.bytesLess s.toList name.toList = false) : (Tr.cons s k r).atIs name = (s.toList == name.toList) := by unfold Tr.atIs; rw [atN_ge h]; rfl
theorem withoutT_lt (h : Op.bytesLess s.toList name.toList = true) : withoutT (.cons s k r) name = .cons s k (withoutT r name) := by simp [withoutT, h]
theorem withoutT_eq (h : Op.bytesLess s.toList name.toList = false) (h2 : (s.toList == name.toList) = true) : withoutT (.cons s k r) name = r := by simp only [withoutT, h, h2]; simp
theorem withoutT_gt (h : Op.bytesLess s.toList name.toList = false) (h2 : (s.toList == name.toList) = false) : withoutT (.cons s k r) name = .cons s k r := by simp only [withoutT, h, h2]; simp
end
theorem cases3 (s name : ByteArray) : Op.bytesLess s.toList name.toList = true ∨ (Op.bytesLess s.toList name.toList = false ∧ (s.toList == name.toList) = true) ∨ (Op.bytesLess s.toList name.toList = false ∧ (s.toList == name.toList) = false ∧ Op.bytesLess name.toList s.toList = true) := by
  cases h : Op.bytesLess s.toList name.toList with
  | true => exact .inl rfl
  | false =>
    right
    cases h2 : (s.toList == name.toList) with
    | true => exact .inl ⟨rfl, rfl⟩
    | false =>
      refine .inr ⟨rfl, rfl, ?_⟩
      rcases not_lt h with h3 | ⟨_, h3⟩
      · exact h3
      · have := beq_iff_eq.1 h3
        rw [this, beq_self_eq_true] at h2
        cases h2
theorem names_of_eq {s name : ByteArray} (h : (s.toList == name.toList) = true) : s = name := bytes_eq (beq_iff_eq.1 h)
theorem self_not_lt (s : ByteArray) : Op.bytesLess s.toList s.toList = false := by
  cases h : Op.bytesLess s.toList s.toList with
  | false => rfl
  | true => exact absurd ((less_iff _ _).1 h) (List.lt_irrefl _)
theorem self_eq (s : ByteArray) : (s.toList == s.toList) = true := beq_self_eq_true _

theorem kidT_not : ∀ {t : Tr} {name : ByteArray}, t.atIs name = false → kidT t name = .nil
  | .nil, _, _ => rfl
  | .cons s k r, name, h => by
    rcases cases3 s name with h1 | ⟨h1, h2⟩ | ⟨h1, h2, _⟩
    · rw [kidT_lt h1]; exact kidT_not (by rw [← h, atIs_lt h1])
    · rw [atIs_ge h1, h2] at h; cases h
    · exact kidT_gt h1 h2
theorem kidT_size : ∀ (t : Tr) (name : ByteArray), (kidT t name).size ≤ t.size
  | .nil, _ => Nat.le_refl _
  | .cons s k r, name => by
    simp only [Tr.size]
    rcases cases3 s name with h1 | ⟨h1, h2⟩ | ⟨h1, h2, _⟩
    · rw [kidT_lt h1]; have := kidT_size r name; omega
    · rw [kidT_eq h1 h2]; omega
    · rw [kidT_gt h1 h2]; simp [Tr.size]
theorem kidT_asc : ∀ {t : Tr} {name : ByteArray}, AscD t → AscD (kidT t name)
  | .nil, _, _ => trivial
  | .cons s k r, name, ⟨_, h2, h3⟩ => by
    rcases cases3 s name with h1 | ⟨h1, h2'⟩ | ⟨h1, h2', _⟩
    · rw [kidT_lt h1]; exact kidT_asc h3
    · rw [kidT_eq h1 h2']; exact h2
    · rw [kidT_gt h1 h2']; trivial
theorem with_is {name : ByteArray} {x : Tr} : ∀ {t : Tr}, (t.withT name x).atIs name = true ∧ kidT (t.withT name x) name = x
  | .nil => by
    show (Tr.cons name x .nil).atIs name = true ∧ kidT (.cons name x .nil) name = x
    rw [atIs_ge (self_not_lt name), kidT_eq (self_not_lt name) (self_eq name)]
    exact ⟨self_eq name, rfl⟩
  | .cons s k r => by
    rcases cases3 s name with c1 | ⟨c1, c2⟩ | ⟨c1, c2, _⟩
    · rw [withT_lt c1, atIs_lt c1, kidT_lt c1]; exact with_is
    · rw [withT_eq c1 c2, atIs_ge (self_not_lt name), kidT_eq (self_not_lt name) (self_eq name)]; exact ⟨self_eq name, rfl⟩
    · rw [withT_gt c1 c2, atIs_ge (self_not_lt name), kidT_eq (self_not_lt name) (self_eq name)]; exact ⟨self_eq name, rfl⟩
theorem lt_trans' {a b c : ByteArray} (h : Op.bytesLess a.toList b.toList = true) (k : Op.bytesLess b.toList c.toList = true) : Op.bytesLess a.toList c.toList = true :=
  (less_iff _ _).2 (List.lt_trans ((less_iff _ _).1 h) ((less_iff _ _).1 k))
theorem with_other {name q : ByteArray} {x : Tr} (hne : (name.toList == q.toList) = false) : ∀ {t : Tr}, t.Asc → (t.withT name x).atIs q = t.atIs q ∧ kidT (t.withT name x) q = kidT t q
  | .nil, _ => by
    show (Tr.cons name x .nil).atIs q = _ ∧ kidT (.cons name x .nil) q = _
    rcases cases3 name q with c1 | ⟨c1, c2⟩ | ⟨c1, c2, _⟩
    · rw [atIs_lt c1, kidT_lt c1]; exact ⟨rfl, rfl⟩
    · rw [c2] at hne; cases hne
    · rw [atIs_ge c1, kidT_gt c1 c2, c2]; exact ⟨rfl, rfl⟩
  | .cons s k r, ha => by
    have ha' := ha
    unfold Tr.Asc at ha'
    rw [bn_cons, List.pairwise_cons] at ha'
    rcases cases3 s name with c1 | ⟨c1, c2⟩ | ⟨c1, c2, c3⟩
    · rw [withT_lt c1]
      rcases cases3 s q with d1 | ⟨d1, d2⟩ | ⟨d1, d2, _⟩
      · rw [atIs_lt d1, atIs_lt d1, kidT_lt d1, kidT_lt d1]; exact with_other hne (t := r) ha'.2
      · rw [atIs_ge d1, atIs_ge d1, kidT_eq d1 d2, kidT_eq d1 d2]; exact ⟨rfl, rfl⟩
      · rw [atIs_ge d1, atIs_ge d1, kidT_gt d1 d2, kidT_gt d1 d2]; exact ⟨rfl, rfl⟩
    · have e := names_of_eq c2
      subst e
      rw [withT_eq c1 c2]
      rcases cases3 s q with d1 | ⟨d1, d2⟩ | ⟨d1, d2, _⟩
      · rw [atIs_lt d1, atIs_lt d1, kidT_lt d1, kidT_lt d1]; exact ⟨rfl, rfl⟩
      · rw [d2] at hne; cases hne
      · rw [atIs_ge d1, atIs_ge d1, kidT_gt d1 d2, kidT_gt d1 d2]; exact ⟨rfl, rfl⟩
    · rw [withT_gt c1 c2]
      rcases cases3 name q with d1 | ⟨d1, d2⟩ | ⟨d1, d2, d3⟩
      · rw [atIs_lt d1, kidT_lt d1]; exact ⟨rfl, rfl⟩
      · rw [d2] at hne; cases hne
      · have d4 := lt_trans' d3 c3
        obtain ⟨d5, d6⟩ := lt_not d4
        rw [atIs_ge d1, kidT_gt d1 d2, d2, atIs_ge d5, d6, kidT_gt d5 d6]; exact ⟨rfl, rfl⟩
end Go.Proofs.YtapgaglkkgbgkaaGreatDoor.Pt
namespace Go.Proofs.YtapgaglkkgbgkaaGreatDoor.Pt
open Go.RowKit Go.Proofs.YtapgaglkkgbgkaaGreatDoor.Jd Go.Proofs.YtapgaglkkgbgkaaGreatDoor.Cl
set_option maxRecDepth 100000

structure OkT (W : World) (A : Option Addr) (n c : Nat) (t : Tr) : Prop where
  holds : Holds W W.heap.size A n t
  cap : n ≤ c ∧ c ≤ maxLen
theorem OkT.below {w w' : World} {A : Option Addr} {n c : Nat} {t : Tr} (h : OkT w A n c t) (hb : Below w.heap.size w w') : OkT w' A n c t := ⟨(h.holds.below hb).more hb.size, h.cap⟩
def OkP (W : World) (t : Tr) (e : Ending) (w' : World) : Prop := ∃ A' n' c', e = .returned (.slice A' n' c') ∧ OkT w' A' n' c' t ∧ Below W.heap.size W w'
theorem sees_up {w : World} {B B' n : Nat} {A : Option Addr} {vs : List Value} (h : SeesV w B A n vs) (hB : B ≤ B') : SeesV w B' A n vs :=
  ⟨h.len, fun j u hu => by
    obtain ⟨b, o, ha, hb, hc⟩ := h.cell j u hu
    exact ⟨b, o, ha, Nat.lt_of_lt_of_le hb hB, hc⟩⟩
theorem kid_at {name : ByteArray} : ∀ {t : Tr}, t.atIs name = true → ∃ r, t.dropT (t.atN name) = .cons name (kidT t name) r
  | .nil, h => by simp [Tr.atIs, Tr.atN, dropT_zero, Tr.headIs] at h
  | .cons s k r, h => by
    rcases cases3 s name with c1 | ⟨c1, c2⟩ | ⟨c1, c2, _⟩
    · rw [atIs_lt c1] at h
      obtain ⟨r', h2⟩ := kid_at h
      rw [atN_lt c1, kidT_lt c1]
      exact ⟨r', h2⟩
    · have e := names_of_eq c2
      subst e
      rw [atN_ge c1, kidT_eq c1 c2]
      exact ⟨r, by rw [dropT_zero]⟩
    · rw [atIs_ge c1, c2] at h; cases h
def K2P (w : World) (B : Nat) (k : Tr) (v : Bool) (e : Ending) (w' : World) : Prop :=
  ∃ A' n' c', e = .returned (.tuple #[.slice A' n' c', .bool v]) ∧ Holds w B A' n' k ∧ n' ≤ c' ∧ c' ≤ maxLen ∧ ∃ q, w' = w.drewN q
theorem drop_lt' {t : Tr} {i : Nat} {s : ByteArray} {k r : Tr} (h : t.dropT i = .cons s k r) : i < t.len := by
  rcases Nat.lt_or_ge i t.len with g | g
  · exact g
  · rw [drop_len t i g] at h; cases h
set_option maxHeartbeats 1000000 in
theorem kid2_any (t : Tr) (A : Option Addr) (n c B : Nat) (name : ByteArray) (w : World) (h : Holds w B A n t) (hB : B ≤ w.heap.size) (hn : n ≤ 140737488351232) :
    Calls Tryz.prog 33 #[.slice A n c, .string name] w (K2P w B (kidT t name) (t.atIs name)) := by
  have HA := Lib.hid (at_any t A n c B name w h hB hn)
  have hl := h.len
  by_cases hi : t.atIs name = true
  · obtain ⟨r, hdr⟩ := kid_at hi
    have hlt := drop_lt' hdr
    rw [hi] at HA ⊢
    obtain ⟨k, hk⟩ : ∃ k, k = t.atN name := ⟨_, rfl⟩
    rw [← hk] at HA hlt hdr
    obtain ⟨b, o, s, kt, r', A', n', c', rfl, hb, hs, hc, hn', hc', hk', hr, hd, hd2⟩ := h.split k (by omega)
    have hkn : (k : Int) < (n : Int) := by omega
    have hk0 : (0 : Int) ≤ (k : Int) := by omega
    have e : kt = kidT t name := by
      rw [hdr] at hd
      injection hd with _ h2 _
      exact h2.symm
    rw [e] at hk'
    clear hk hd hd2 hi hl hdr e
    go_enter Tryz.func33, Tryz.ntmps33
    go_wp2_with fail
    refine HA.out.mono ?_
    rintro e _ ⟨rfl, q, rfl⟩
    go_wp2_with fail
    go_ret2
    exact ⟨A', n', c', rfl, hk', hn', hc', q, rfl⟩
  · have hi2 : t.atIs name = false := by simpa using hi
    have hkn := kidT_not hi2
    rw [hi2] at HA ⊢
    rw [hkn]
    obtain ⟨k, hk⟩ : ∃ k, k = t.atN name := ⟨_, rfl⟩
    rw [← hk] at HA
    clear hi hi2 hk h hl hn hkn
    go_enter Tryz.func33, Tryz.ntmps33
    go_wp2_with fail
    refine HA.out.mono ?_
    rintro e _ ⟨rfl, q, rfl⟩
    go_wp2_with fail
    go_ret2
    exact ⟨none, 0, 0, rfl, rfl, Nat.le_refl _, Nat.zero_le _, q, rfl⟩


theorem sees_behind {w : World} {B b o n c : Nat} {v : Value} {vs : List Value} (h : SeesV w B (some ⟨b, o, none⟩) (n + 1) (v :: vs)) (hc : n + 1 ≤ c) : SeesV w B (if c = 1 then some ⟨b, o, none⟩ else some ⟨b, o + 1, none⟩) n vs := by
  have hl := h.len
  simp only [List.length_cons] at hl
  refine ⟨by omega, fun j u hu => ?_⟩
  have hj : j < vs.length := by
    rcases Nat.lt_or_ge j vs.length with g | g
    · exact g
    · rw [List.getElem?_eq_none g] at hu; cases hu
  rw [if_neg (by omega)]
  obtain ⟨b', o', e, hb, hcl⟩ := h.cell (j + 1) u (by simpa using hu)
  cases e
  exact ⟨b, o + 1, rfl, hb, by rw [show o + 1 + j = o + (j + 1) by omega]; exact hcl⟩

set_option maxHeartbeats 2000000 in
theorem rput_any {x : Tr} : ∀ (ps : List ByteArray) (t : Tr) (A Ap Ax : Option Addr) (n c np cp nx cx : Nat) (w : World), OkT w A n c t → OkT w Ax nx cx x → SeesV w w.heap.size Ap np (ps.map Value.string) → np ≤ cp → t.size ≤ 274877906944 →
    Calls Tryz.prog 31 #[.slice A n c, .slice Ap np cp, .slice Ax nx cx] w (OkP w (putT t ps x))
  | [], t, A, Ap, Ax, n, c, np, cp, nx, cx, w, ht, hx, hp, hcp, hz => by
    obtain rfl : np = 0 := by have := hp.len; simpa using this
    rw [show putT t [] x = x by cases t <;> rfl]
    have HX := Lib.hid hx
    clear ht hx hp hz
    go_enter Tryz.func31, Tryz.ntmps31
    go_wp2_with fail
    go_ret
    exact ⟨Ax, nx, cx, rfl, HX.out, Below.refl _ _⟩
  | p :: ps, t, A, Ap, Ax, n, c, np, cp, nx, cx, w, ht, hx, hp, hcp, hz => by
    obtain ⟨m, rfl⟩ : ∃ m, np = m + 1 := by have := hp.len; simp only [List.length_map, List.length_cons] at this; exact ⟨_, this⟩
    obtain ⟨b, o, rfl, hb, hc0⟩ := hp.str (j := 0) (by omega)
    have hc1 : w.cell? ⟨b, o, none⟩ = some (.string p) := by simpa using hc0
    have hpt := sees_behind (vs := ps.map Value.string) hp hcp
    have hl := ht.holds.len
    have hls := t.len_size
    have HK := Lib.hid (kid2_any t A n c w.heap.size p w ht.holds (Nat.le_refl _) (by omega))
    have HC := Lib.hid (fun (W : World) (hW : Below w.heap.size w W) (A' : Option Addr) (n' c' : Nat) (hk : OkT W A' n' c' (kidT t p)) => rput_any (x := x) ps (kidT t p) A' _ Ax n' c' m (cp - 1) nx cx W hk (hx.below hW) (sees_up (hpt.below hW) hW.size) (by omega) (Nat.le_trans (kidT_size t p) hz))
    have HT := Lib.hid ht
    have hn5 : n ≤ 549755813888 := by omega
    have e : putT t (p :: ps) x = t.withT p (putT (kidT t p) ps x) := rfl
    rw [e]
    obtain ⟨y, hy⟩ : ∃ y, y = putT (kidT t p) ps x := ⟨_, rfl⟩
    rw [← hy] at HC ⊢
    have hcap := ht.cap.1
    clear hc0 hp hpt hl hls hx hz e hy ht
    by_cases hone : cp = 1
    · subst hone
      obtain rfl : m = 0 := by omega
      simp only [Nat.zero_add, if_true, Nat.sub_self] at HC ⊢
      go_enter Tryz.func31, Tryz.ntmps31
      go_wp2_with fail
      (with_reducible refine HK.out.mono ?_)
      rintro e w1 ⟨A', n', c', rfl, hk', hn', hc', q, hw1⟩
      have hb1 : Below w.heap.size w w1 := by rw [hw1]; exact below_drewN (Below.refl _ _) q
      have hc1' := (hb1.cell (p := ⟨b, o, none⟩) hb).trans hc1
      have hbd : Below w.heap.size w w1.drew := hb1.drew
      have HOk := Lib.hid (show OkT w1.drew A' n' c' (kidT t p) from ⟨(hk'.below hbd).more hbd.size, hn', hc'⟩)
      have hbl : b < w1.heap.size := Nat.lt_of_lt_of_le hb hb1.size
      clear hk' hw1
      go_wp2_with fail
      go_region_held3 (fun w' => w'.cell? ⟨b, o, none⟩ = some (.string p)) (first | exact hc1' | exact hs3 | exact hs4)
        (first
        | (go_at_call 31; refine (HC.out _ hbd A' n' c' HOk.out).mono ?_; rintro e w3 ⟨A3, n3, c3, rfl, ox, hb3⟩; have hs3 := (hb3.cell (p := ⟨b, o, none⟩) hbl).trans hc1'; have hb03 := hbd.trans (hb3.mono hbd.size); have hA3 := (HT.out.below hb03).holds)
        | (go_at_call 34; refine (with_any t y A A3 n c n3 c3 w3.heap.size p w3 hA3 ox.holds (Nat.le_refl _) hn5 hcap ox.cap.1 ox.cap.2).mono ?_; rintro e w4 ⟨A4, n5, c4, rfl, hx4, hn5', hm4, hb4⟩; have hs4 := (hb4.cell (p := ⟨b, o, none⟩) (Nat.lt_of_lt_of_le hbl hb3.size)).trans hs3))
      all_goals
        go_wp2_with fail
        go_ret
        exact ⟨A4, n5, c4, rfl, ⟨hx4, hn5', hm4⟩, hb03.trans (hb4.mono hb03.size)⟩
    · rw [if_neg hone] at HC
      have hone' : ¬ (cp : Int) = 1 := by omega
      have hm1 : (1 : Int) ≤ (m : Int) + 1 := by omega
      have hm0 : ((m : Int) + 1 == 0) = false := by simp; omega
      have hm2 : ¬ (m : Int) + 1 = 0 := by omega
      have hcp1 : (m : Int) + 1 ≤ (cp : Int) := by omega
      have hcp2 : (1 : Int) ≤ (cp : Int) := by omega
      have hm3 : (0 : Int) < (m : Int) + 1 := by omega
      go_enter Tryz.func31, Tryz.ntmps31
      go_wp2_with fail
      (with_reducible refine HK.out.mono ?_)
      rintro e w1 ⟨A', n', c', rfl, hk', hn', hc', q, hw1⟩
      have hb1 : Below w.heap.size w w1 := by rw [hw1]; exact below_drewN (Below.refl _ _) q
      have hc1' := (hb1.cell (p := ⟨b, o, none⟩) hb).trans hc1
      have hbd : Below w.heap.size w w1.drew := hb1.drew
      have HOk := Lib.hid (show OkT w1.drew A' n' c' (kidT t p) from ⟨(hk'.below hbd).more hbd.size, hn', hc'⟩)
      have hbl : b < w1.heap.size := Nat.lt_of_lt_of_le hb hb1.size
      clear hk' hw1
      go_wp2_with fail
      go_region_held3 (fun w' => w'.cell? ⟨b, o, none⟩ = some (.string p)) (first | exact hc1' | exact hs3 | exact hs4)
        (first
        | (go_at_call 31; refine (HC.out _ hbd A' n' c' HOk.out).mono ?_; rintro e w3 ⟨A3, n3, c3, rfl, ox, hb3⟩; have hs3 := (hb3.cell (p := ⟨b, o, none⟩) hbl).trans hc1'; have hb03 := hbd.trans (hb3.mono hbd.size); have hA3 := (HT.out.below hb03).holds)
        | (go_at_call 34; refine (with_any t y A A3 n c n3 c3 w3.heap.size p w3 hA3 ox.holds (Nat.le_refl _) hn5 hcap ox.cap.1 ox.cap.2).mono ?_; rintro e w4 ⟨A4, n5, c4, rfl, hx4, hn5', hm4, hb4⟩; have hs4 := (hb4.cell (p := ⟨b, o, none⟩) (Nat.lt_of_lt_of_le hbl hb3.size)).trans hs3))
      all_goals
        go_wp2_with fail
        go_ret
        exact ⟨A4, n5, c4, rfl, ⟨hx4, hn5', hm4⟩, hb03.trans (hb4.mono hb03.size)⟩
end Go.Proofs.YtapgaglkkgbgkaaGreatDoor.Pt
namespace Go.Proofs.YtapgaglkkgbgkaaGreatDoor.Pt
open Go.RowKit Go.Proofs.YtapgaglkkgbgkaaGreatDoor.Jd Go.Proofs.YtapgaglkkgbgkaaGreatDoor.Cl
set_option maxRecDepth 100000

theorem withoutT_not : ∀ {t : Tr} {name : ByteArray}, t.atIs name = false → withoutT t name = t
  | .nil, _, _ => rfl
  | .cons s k r, name, h => by
    rcases cases3 s name with c1 | ⟨c1, c2⟩ | ⟨c1, c2, _⟩
    · rw [withoutT_lt c1, withoutT_not (by rw [← h, Pt.atIs_lt c1])]
    · rw [atIs_ge c1, c2] at h; cases h
    · exact withoutT_gt c1 c2
theorem RowT_without {w : World} {B : Nat} {name : ByteArray} : ∀ {vs : List Value} {t : Tr}, RowT w B vs t → t.atIs name = true →
    RowT w B (vs.take (t.atN name * 2) ++ vs.drop ((t.atN name + 1) * 2)) (withoutT t name)
  | [], .nil, _, h => by simp [Tr.atIs, Tr.atN, dropT_zero, Tr.headIs] at h
  | .string s :: .slice A n c :: vs, .cons _ k r, ⟨h1, h2, h3, h4, h5⟩, h => by
    subst h1
    rcases cases3 s name with c1 | ⟨c1, c2⟩ | ⟨c1, c2, _⟩
    · rw [Pt.atIs_lt c1] at h
      have ih := RowT_without h5 h
      rw [withoutT_lt c1, atN_lt c1, show (r.atN name + 1) * 2 = r.atN name * 2 + 1 + 1 by omega, show (r.atN name + 1 + 1) * 2 = (r.atN name + 1) * 2 + 1 + 1 by omega]
      exact ⟨rfl, h2, h3, h4, ih⟩
    · rw [withoutT_eq c1 c2, atN_ge c1]
      simpa using h5
    · rw [atIs_ge c1, c2] at h; cases h

set_option maxHeartbeats 2000000 in
theorem rwithout_any (t : Tr) (A : Option Addr) (n c : Nat) (name : ByteArray) (w : World) (h : OkT w A n c t) (hn : n ≤ 549755813888) :
    Calls Tryz.prog 53 #[.slice A n c, .string name] w (OkP w (withoutT t name)) := by
  have Hn := Lib.hid h.holds.len
  have Hat := Lib.hid (at_any t A n c w.heap.size name w h.holds (Nat.le_refl _) (by omega))
  have hc := h.cap.1
  by_cases hi : t.atIs name = true
  · have hlt : t.atN name < t.len := by
      rcases Nat.lt_or_ge (t.atN name) t.len with g | g
      · exact g
      · unfold Tr.atIs at hi
        rw [drop_len t _ g] at hi
        cases hi
    rw [← Hn.out] at hlt
    obtain ⟨vs, hr, hcell, hpos⟩ := h.holds.rowT
    obtain ⟨b, o, rfl, hbB⟩ := hpos (by omega)
    have hrow := RowT_without hr hi
    rw [hi] at Hat
    obtain ⟨k, hk⟩ : ∃ k, k = t.atN name := ⟨_, rfl⟩
    rw [← hk] at hlt Hat hrow
    have hvl := hr.length
    rw [← Hn.out] at hvl
    have hcl := hcell b o rfl
    have hone := hr.one
    have h1 : ∀ W : World, Below w.heap.size w W → Src Tryz.prog 2 30 (.slice (some ⟨b, o, none⟩) k c) k (vs.take (k * 2)) W := fun W hW => src_edges (by rw [List.length_take]; omega) (fun j u hu => by
      rw [List.getElem?_take] at hu
      split at hu
      · exact (hW.cell (p := ⟨b, o + j, none⟩) (by simp only; omega)).trans (hcl j u hu)
      · cases hu) (fun u hu => hone u (List.mem_of_mem_take hu))
    have H1 := Lib.hid h1
    have h3 : ∀ W : World, Below w.heap.size w W → Src Tryz.prog 2 30 (.slice (if c = k + 1 then some ⟨b, o, none⟩ else some ⟨b, o + (k + 1) * 2, none⟩) (n - (k + 1)) (c - (k + 1))) (n - (k + 1)) (vs.drop ((k + 1) * 2)) W := by
      intro W hW
      by_cases e : c = k + 1
      · have e0 : n - (k + 1) = 0 := by omega
        rw [e0, List.drop_of_length_le (by omega)]
        exact src_none _ _ _
      · rw [if_neg e]
        exact src_edges (by rw [List.length_drop]; omega) (fun j u hu => by
          rw [List.getElem?_drop] at hu
          rw [show o + (k + 1) * 2 + j = o + ((k + 1) * 2 + j) by omega]
          exact (hW.cell (p := ⟨b, o + ((k + 1) * 2 + j), none⟩) (by simp only; omega)).trans (hcl _ u hu)) (fun u hu => hone u (List.mem_of_mem_drop hu))
    have H3 := Lib.hid h3
    have hkn : (k : Int) ≤ (n : Int) := by omega
    have hcn : (n : Int) ≤ (c : Int) := by omega
    have hkc : (k : Int) ≤ (c : Int) := by omega
    have hk0 : (0 : Int) ≤ (k : Int) := by omega
    have hkn1 : (k : Int) + 1 ≤ (n : Int) := by omega
    have Hrow := Lib.hid hrow
    clear h3 h1 hcl hcell hvl hone hk hr hrow hpos hi
    go_enter Tryz.func53, Tryz.ntmps53
    go_wp2_with fail
    refine Hat.out.mono ?_
    rintro e w1' ⟨rfl, q, rfl⟩
    go_wp2_with (first
      | (at_builtin; refine wpList_append_row rfl (.tmp 17) (.tmp 20) _ _ rfl elem_edge rfl rfl (World.ownsRow_nil _ w.heap.size _ _) (H1.out _ (below_drewN (Below.refl _ w) q)) (by omega) (Nat.le_refl _) ?_; intro A1 c1 w1 ho1 hg1 hat1; simp only [Nat.zero_add, List.nil_append] at ho1; have hb1 : Below w.heap.size w w1 := (below_drewN (Below.refl _ w) q).grown hg1 (Nat.le_refl _) (by simp [Value.ownBlock]); have hz1 := hb1.size; have hs3 := H3.out w1 hb1)
      | (at_builtin; refine wpList_append_row rfl (.tmp 22) (.tmp 26) _ _ rfl elem_edge rfl rfl ho1 hs3 (by omega) hz1 ?_; intro A3 c3 w3 ho3 hg3 hat3))
    all_goals
      go_ret
      have hb3 : Below w.heap.size w w3 := hb1.grown hg3 hz1 (fun k hk => (ho1.lt k hk).1)
      refine ⟨A3, _, c3, rfl, ⟨own_holds ho3 ?_, (own_cap ho3).1, (own_cap ho3).2⟩, hb3⟩
      exact (Hrow.out.keep (w' := w3) (fun p hp => hb3.cell hp)).more hb3.size
  · have hi2 : t.atIs name = false := by simpa using hi
    rw [hi2] at Hat
    rw [withoutT_not hi2]
    obtain ⟨k, hk⟩ : ∃ k, k = t.atN name := ⟨_, rfl⟩
    rw [← hk] at Hat
    have HO := Lib.hid h
    clear hi hi2 hk h
    go_enter Tryz.func53, Tryz.ntmps53
    go_wp2_with fail
    refine Hat.out.mono ?_
    rintro e w1' ⟨rfl, q, rfl⟩
    go_wp2_with fail
    go_ret
    exact ⟨A, n, c, rfl, HO.out.below (below_drewN (Below.refl _ w) q), below_drewN (Below.refl _ w) q⟩
set_option maxHeartbeats 2000000 in
theorem rdrop_any : ∀ (ps : List ByteArray) (t : Tr) (A Ap : Option Addr) (n c np cp : Nat) (w : World), OkT w A n c t → SeesV w w.heap.size Ap np (ps.map Value.string) → np ≤ cp → ps.length ≤ 1000000 → t.size ≤ 274877906944 →
    Calls Tryz.prog 30 #[.slice A n c, .slice Ap np cp] w (OkP w (dropP t ps))
  | [], t, A, Ap, n, c, np, cp, w, ht, hp, hcp, hps, hz => by
    obtain rfl : np = 0 := by have := hp.len; simpa using this
    rw [show dropP t [] = .nil by cases t <;> rfl]
    clear ht hp hz
    go_enter Tryz.func30, Tryz.ntmps30
    go_wp2_with fail
    go_ret
    exact ⟨none, 0, 0, rfl, ⟨rfl, Nat.le_refl _, Nat.zero_le _⟩, Below.refl _ _⟩
  | p :: ps, t, A, Ap, n, c, np, cp, w, ht, hp, hcp, hps, hz => by
    obtain ⟨m, rfl⟩ : ∃ m, np = m + 1 := by have := hp.len; simp only [List.length_map, List.length_cons] at this; exact ⟨_, this⟩
    have hml : m = ps.length := by have := hp.len; simp only [List.length_map, List.length_cons] at this; omega
    have hmb : m ≤ 1000000 := by simp only [List.length_cons] at hps; omega
    obtain ⟨b, o, rfl, hb, hc0⟩ := hp.str (j := 0) (by omega)
    have hc1 : w.cell? ⟨b, o, none⟩ = some (.string p) := by simpa using hc0
    have hpt := sees_behind (vs := ps.map Value.string) hp hcp
    have hl := ht.holds.len
    have hls := t.len_size
    have HK := Lib.hid (kid2_any t A n c w.heap.size p w ht.holds (Nat.le_refl _) (by omega))
    have HT := Lib.hid ht
    have hn5 : n ≤ 549755813888 := by omega
    have hcap := ht.cap.1
    have hm0 : ((m : Int) + 1 == 0) = false := by simp; omega
    have hm2 : ¬ (m : Int) + 1 = 0 := by omega
    have hm3 : (0 : Int) < (m : Int) + 1 := by omega
    by_cases hi : t.atIs p = true
    case neg =>
      have hi2 : t.atIs p = false := by simpa using hi
      have e : dropP t (p :: ps) = t := by cases ps <;> simp [dropP, hi2]
      rw [e]
      rw [hi2] at HK
      clear hc0 hp hpt hl hls hz e hi hi2 ht
      go_enter Tryz.func30, Tryz.ntmps30
      go_wp2_with fail
      (with_reducible refine HK.out.mono ?_)
      rintro e w1 ⟨A', n', c', rfl, hk', hn', hc', q, hw1⟩
      have HB1 : Hid (Below w.heap.size w w1) := Lib.hid (by rw [hw1]; exact below_drewN (Below.refl _ _) q)
      clear hk' hw1
      go_wp2_with fail
      go_ret
      exact ⟨A, n, c, rfl, HT.out.below HB1.out, HB1.out⟩
    rw [hi] at HK
    cases ps with
    | nil =>
      obtain rfl : m = 0 := by simpa using hml
      have e : dropP t [p] = withoutT t p := by simp [dropP, hi]
      rw [e]
      have HC := Lib.hid (fun (W : World) (hW : Below w.heap.size w W) => rwithout_any t A n c p W (ht.below hW) hn5)
      simp only [Nat.zero_add]
      clear hc0 hp hpt hl hls hz e hi ht hm0 hm2 hm3 hml hmb
      go_enter Tryz.func30, Tryz.ntmps30
      go_wp2_with fail
      (with_reducible refine HK.out.mono ?_)
      rintro e w1 ⟨A', n', c', rfl, hk', hn', hc', q, hw1⟩
      have hb1 : Below w.heap.size w w1 := by rw [hw1]; exact below_drewN (Below.refl _ _) q
      have hc1' := (hb1.cell (p := ⟨b, o, none⟩) hb).trans hc1
      clear hk' hw1
      go_wp2_with fail
      (with_reducible refine (HC.out w1 hb1).mono ?_)
      rintro e w2 ⟨A2, n2, c2, rfl, o2, hb2⟩
      have H2 := Lib.hid o2
      have HB2 := Lib.hid hb2
      clear o2 hb2
      go_wp2_with fail
      go_ret
      exact ⟨A2, n2, c2, rfl, H2.out, hb1.trans (HB2.out.mono hb1.size)⟩
    | cons p2 ps =>
      obtain ⟨m2, rfl⟩ : ∃ m2, m = m2 + 1 := ⟨ps.length, by simpa using hml⟩
      have e : dropP t (p :: p2 :: ps) = t.withT p (dropP (kidT t p) (p2 :: ps)) := by simp [dropP, hi]
      rw [e]
      have HC := Lib.hid (fun (W : World) (hW : Below w.heap.size w W) (A' : Option Addr) (n' c' : Nat) (hk : OkT W A' n' c' (kidT t p)) => rdrop_any (p2 :: ps) (kidT t p) A' _ n' c' (m2 + 1) (cp - 1) W hk (sees_up (hpt.below hW) hW.size) (by omega) (by simp only [List.length_cons] at hps ⊢; omega) (Nat.le_trans (kidT_size t p) hz))
      obtain ⟨y, hy⟩ : ∃ y, y = dropP (kidT t p) (p2 :: ps) := ⟨_, rfl⟩
      rw [← hy] at HC ⊢
      rw [if_neg (by omega)] at HC
      have hone : ¬ cp = 1 := by omega
      have hone' : ¬ (cp : Int) = 1 := by omega
      have hq1 : (1 : Int) ≤ ((m2 + 1 : Nat) : Int) + 1 := by omega
      have hcp1 : ((m2 + 1 : Nat) : Int) + 1 ≤ (cp : Int) := by omega
      have hcp2 : (1 : Int) ≤ (cp : Int) := by omega
      obtain ⟨m, hm⟩ : ∃ m, m = m2 + 1 := ⟨_, rfl⟩
      have hmp : 1 ≤ m := by omega
      rw [← hm] at hq1 hcp1 HC hm0 hm2 hm3 hmb ⊢
      have hne1 : ((m : Int) + 1 == 1) = false := by simp; omega
      have hne1' : ¬ (m : Int) + 1 = 1 := by omega
      have hne2 : ¬ (m : Int) = 0 := by omega
      have hne2' : ¬ m = 0 := by omega
      clear hc0 hp hpt hl hls hz e hi ht hy hm hml hps
      go_enter Tryz.func30, Tryz.ntmps30
      go_wp2_with fail
      (with_reducible refine HK.out.mono ?_)
      rintro e w1 ⟨A', n', c', rfl, hk', hn', hc', q, hw1⟩
      have hb1 : Below w.heap.size w w1 := by rw [hw1]; exact below_drewN (Below.refl _ _) q
      have hc1' := (hb1.cell (p := ⟨b, o, none⟩) hb).trans hc1
      have hbd : Below w.heap.size w w1.drew := hb1.drew
      have HOk := Lib.hid (show OkT w1.drew A' n' c' (kidT t p) from ⟨(hk'.below hbd).more hbd.size, hn', hc'⟩)
      have hbl : b < w1.heap.size := Nat.lt_of_lt_of_le hb hb1.size
      clear hk' hw1
      go_wp2_with fail
      go_region_held3 (fun w' => w'.cell? ⟨b, o, none⟩ = some (.string p)) (first | exact hc1' | exact hs3 | exact hs4)
        (first
        | (go_at_call 30; refine (HC.out _ hbd A' n' c' HOk.out).mono ?_; rintro e w3 ⟨A3, n3, c3, rfl, ox, hb3⟩; have hs3 := (hb3.cell (p := ⟨b, o, none⟩) hbl).trans hc1'; have hb03 := hbd.trans (hb3.mono hbd.size); have hA3 := (HT.out.below hb03).holds)
        | (go_at_call 34; refine (with_any t y A A3 n c n3 c3 w3.heap.size p w3 hA3 ox.holds (Nat.le_refl _) hn5 hcap ox.cap.1 ox.cap.2).mono ?_; rintro e w4 ⟨A4, n5, c4, rfl, hx4, hn5', hm4, hb4⟩; have hs4 := (hb4.cell (p := ⟨b, o, none⟩) (Nat.lt_of_lt_of_le hbl hb3.size)).trans hs3))
      all_goals
        go_wp2_with fail
        go_ret
        exact ⟨A4, n5, c4, rfl, ⟨hx4, hn5', hm4⟩, hb03.trans (hb4.mono hb03.size)⟩
end Go.Proofs.YtapgaglkkgbgkaaGreatDoor.Pt
