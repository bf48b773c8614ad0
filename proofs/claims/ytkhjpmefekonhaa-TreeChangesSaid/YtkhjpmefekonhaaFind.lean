/- tree.find at edges that stand in order: where the edge of that name stands or would stand, and whether it is there. No conditions. -/
import Derived.Test.YtkhjpmefekonhaaNamesMath
namespace Go.Proofs.Ytkhjpmefekonhaa
open Go.RowKit
set_option maxRecDepth 100000

theorem asc_at {name : ByteArray} : ∀ {t : Tr} {k : Nat} {s : ByteArray}, t.Asc → t.names[k]? = some s → (Op.bytesLess s.toList name.toList = true ↔ k < t.atN name)
  | .nil, _, _, _, h => by simp [Tr.names] at h
  | .cons s0 k0 r, 0, s, ha, h => by
    simp only [Tr.names, List.getElem?_cons_zero, Option.some.injEq] at h
    subst h
    simp only [Tr.atN]
    split
    · rename_i hl; simp [hl]
    · rename_i hl; simp [hl]
  | .cons s0 k0 r, k + 1, s, ha, h => by
    simp only [Tr.names, List.getElem?_cons_succ] at h
    have ha' := ha
    unfold Tr.Asc at ha'
    rw [bn_cons, List.pairwise_cons] at ha'
    simp only [Tr.atN]
    split
    · rw [asc_at (t := r) ha'.2 h]
      omega
    · rename_i hl
      constructor
      · intro hs
        have hm : s.data.toList ∈ r.bn := List.mem_map.2 ⟨s, List.mem_of_getElem? h, rfl⟩
        exact absurd ((less_iff _ _).2 (List.lt_trans (ha'.1 _ hm) ((less_iff _ _).1 hs))) hl
      · intro hs; omega
theorem asc_eqn {name : ByteArray} : ∀ {t : Tr} {k : Nat}, t.Asc → t.names[k]? = some name → k = t.atN name
  | .nil, _, _, h => by simp [Tr.names] at h
  | .cons s0 k0 r, 0, ha, h => by
    simp only [Tr.names, List.getElem?_cons_zero, Option.some.injEq] at h
    subst h
    simp only [Tr.atN]
    rw [if_neg (fun e => List.lt_irrefl _ ((less_iff _ _).1 e))]
  | .cons s0 k0 r, k + 1, ha, h => by
    simp only [Tr.names, List.getElem?_cons_succ] at h
    unfold Tr.Asc at ha
    rw [bn_cons, List.pairwise_cons] at ha
    have hm : name.data.toList ∈ r.bn := List.mem_map.2 ⟨name, List.mem_of_getElem? h, rfl⟩
    simp only [Tr.atN]
    rw [if_pos ((less_iff _ _).2 (ha.1 _ hm)), asc_eqn (t := r) ha.2 h]
theorem at_there {name : ByteArray} : ∀ {t : Tr} {k : Nat} {s : ByteArray}, t.names[k]? = some s → k = t.atN name → t.atIs name = (s.toList == name.toList)
  | .nil, _, _, h, _ => by simp [Tr.names] at h
  | .cons s0 k0 r, k, s, h, hk => by
    unfold Tr.atIs
    simp only [Tr.atN] at hk ⊢
    split at hk
    · rename_i hl
      subst hk
      rw [if_pos hl]
      simp only [Tr.names, List.getElem?_cons_succ] at h
      exact at_there (t := r) h rfl
    · rename_i hl
      subst hk
      rw [if_neg hl]
      simp only [Tr.names, List.getElem?_cons_zero, Option.some.injEq] at h
      subst h
      rw [dropT_zero]
      rfl
theorem drop_names {t r kt : Tr} {k : Nat} {s : ByteArray} (hd : t.dropT k = .cons s kt r) : t.names[k]? = some s := by
  have h1 := names_drop t k
  rw [hd] at h1
  have := congrArg (·[0]?) h1
  simp [Tr.names] at this
  exact this.symm

set_option maxHeartbeats 2000000 in
theorem find_any (t : Tr) (ha : t.Asc) (A : Option Addr) (n c B : Nat) (name : ByteArray) (w : World) (h : Holds w B A n t) (hB : B ≤ w.heap.size) (hn : n ≤ 140737488351232) :
    Calls Try.prog 52 #[.slice A n c, .string name] w fun e w' => e = .returned (.tuple #[.int .i64 (t.atN name : Nat), .bool (t.atIs name)]) ∧ Below B w w' := by
  have Hn := Lib.hid h.len
  have hle := atN_le name t
  rw [← Hn.out] at hle
  have Hlt := Lib.hid (fun e => atIs_lt (name := name) (t := t) e)
  obtain ⟨p, hp⟩ : ∃ p, p = t.atN name := ⟨_, rfl⟩
  obtain ⟨v, hv⟩ : ∃ v, v = t.atIs name := ⟨_, rfl⟩
  have Hat := Lib.hid (fun (k : Nat) (s : ByteArray) (h : t.names[k]? = some s) => asc_at (name := name) ha h)
  have Hth := Lib.hid (fun (k : Nat) (s : ByteArray) (h : t.names[k]? = some s) => at_there (name := name) (k := k) h)
  have Heq := Lib.hid (fun (k : Nat) (h : t.names[k]? = some name) => asc_eqn (name := name) ha h)
  rw [← hp] at hle Hlt Hat Hth Heq ⊢
  rw [← hv] at Hlt Hth ⊢
  clear hp hv
  go_enter Try.func52, Try.ntmps52
  go_wp2_with fail
  go_loopw [6, 13] (fun a i wr => ∃ (k at' : Nat), k ≤ n ∧ i = .int .i64 k ∧ a = .int .i64 at' ∧ Hid (k ≤ p → at' = n) ∧ Hid (p < k → at' = p ∧ v = false) ∧ Below B w wr) (fun _ i _ => n - (intOf i).toNat)
  case atStart => exact ⟨0, n, Nat.zero_le _, rfl, rfl, Lib.hid (fun _ => rfl), Lib.hid (fun h => by omega), Below.refl _ _⟩
  case round =>
    obtain ⟨k, q, hk, rfl, rfl, H1, H2, hbw⟩ := hrel
    by_cases hlt : k < n
    · obtain ⟨b, o, s, kt, r, A', n', c', rfl, hb, hs, hc, hn', hc', hk', hr, hd, hd2⟩ := (h.below hbw).split k hlt
      have hnm := drop_names hd
      have hkn : (k : Int) < (n : Int) := by omega
      have hk0 : (0 : Int) ≤ (k : Int) := by omega
      have hat := Hat.out k s hnm
      have hth := Hth.out k s hnm
      have HkN := Lib.hid hlt
      have hsz := hbw.size
      have hbr := hbw.alloc (Nat.le_trans hB hsz) (Obj.cells #[Value.string s, Value.slice A' n' c'] 32)
      by_cases he : s.toList = name.toList
      · have hs0 := bytes_eq he
        subst hs0
        have hkp := Heq.out k hnm
        subst hkp
        have hv := hth rfl
        rw [beq_self_eq_true] at hv
        subst hv
        clear hat hth hd hd2 hnm H1 H2 hlt
        have he2 : (s.toList == s.toList) = true := by simp
        go_wp2_with fail
        go_ret2
        exact ⟨rfl, hbr⟩
      · have he2 : (s.toList == name.toList) = false := by simpa using he
        cases hl : Op.bytesLess s.toList name.toList with
        | true =>
          have hkp := hat.1 hl
          have hq := H1.out (by omega)
          subst hq
          have Hkp := Lib.hid hkp
          clear hat hth hd hd2 hnm H1 H2 hlt hkp he
          go_wp2_with fail
          go_roundw
          case rel => exact ⟨k + 1, q, by have := HkN.out; omega, by go_num, rfl, Lib.hid (fun _ => rfl), Lib.hid (fun g => by have := Hkp.out; omega), hbr⟩
          case measure => have := HkN.out; simp [intOf]; omega
        | false =>
          have hpk : p ≤ k := by
            rcases Nat.lt_or_ge k p with g | g
            · rw [hat.2 g] at hl; cases hl
            · exact g
          rcases Nat.lt_or_ge p k with g | g
          · obtain ⟨rfl, hv⟩ := H2.out g
            have Hv := Lib.hid hv
            have hmin : ((k : Int) < (q : Int)) = False := by simp; omega
            have hmin2 : ¬ ((k : Int) < (q : Int)) := by omega
            have hmin3 : ¬ (k < q) := by omega
            have Hg := Lib.hid g
            clear hat hth hd hd2 hnm H1 H2 hlt he hv hpk g
            go_wp2_with fail
            go_roundw
            case rel => exact ⟨k + 1, q, by have := HkN.out; omega, by go_num, by go_num, Lib.hid (fun g2 => by have := Hg.out; omega), Lib.hid (fun _ => ⟨rfl, Hv.out⟩), hbr⟩
            case measure => have := HkN.out; simp [intOf]; omega
          · obtain rfl : k = p := by omega
            obtain rfl := H1.out (Nat.le_refl _)
            have hv := hth rfl
            rw [he2] at hv
            have Hv := Lib.hid hv
            have hmin2 : ((k : Int) < (q : Int)) := hkn
            have hmin3 : k < q := by omega
            clear hat hth hd hd2 hnm H1 H2 he hv hpk g
            go_wp2_with fail
            go_roundw
            case rel => exact ⟨k + 1, k, by have := HkN.out; omega, by go_num, by go_num, Lib.hid (fun g2 => by omega), Lib.hid (fun _ => ⟨rfl, Hv.out⟩), hbr⟩
            case measure => have := HkN.out; simp [intOf]; omega
    · obtain rfl : k = n := by omega
      have hvp : q = p ∧ v = false := by
        rcases Nat.lt_or_ge p k with g | g
        · exact H2.out g
        · have hq := H1.out g
          refine ⟨by omega, ?_⟩
          cases v with
          | false => rfl
          | true => have := Hlt.out rfl; rw [← Hn.out] at this; omega
      obtain ⟨rfl, rfl⟩ := hvp
      have hkk : ¬ ((k : Int) < (k : Int)) := by omega
      clear H1 H2 hlt
      go_wp2_with fail
      go_ret2
      exact ⟨rfl, hbw⟩
end Go.Proofs.Ytkhjpmefekonhaa
