/- commit's laws: known, within, Few, Good. No conditions. -/
import Derived.Test.YtpaaafdnkehmfaaCmAll
import Derived.Test.YtpaaafdnkehmfaaCmCut
import Derived.BigRegion
namespace Go.Proofs.Ytpaaafdnkehmfaa.Vf
open Go.RowKit
set_option maxRecDepth 100000

set_option maxHeartbeats 400000 in
theorem within16_any (a n : Int) (hn : 0 < n) (hn2 : n ≤ 2147483647) (hx1 : -9223372036854775808 ≤ a) (hx2 : a ≤ 9223372036854775807) (w : World) : Calls Try.prog 28 #[.int .i64 a, .int .i64 n] w fun e w' => e = .returned (.int .i64 (a % n)) ∧ w = w' := by
  have _hx := And.intro hx1 hx2
  have hm1 := Int.tmod_lt_of_pos a hn
  have hm2 := Int.lt_tmod_of_pos a hn
  by_cases h : a.tmod n < 0
  · have Hf := Lib.hid (tmod_neg hn h)
    go_enter Try.func28, Try.ntmps28
    go_wp2
    go_ret
    exact ⟨by rw [← Hf.out]; rfl, rfl⟩
  · have Hf := Lib.hid (tmod_pos hn (by omega : 0 ≤ a.tmod n))
    go_enter Try.func28, Try.ntmps28
    go_wp2
    go_ret
    exact ⟨by rw [← Hf.out]; rfl, rfl⟩

def qV1 : Vm := ⟨[], [(jN, some [1])], 100, 1, 0, false⟩
def qV2 : Vm := ⟨[], [], 100, 3, 0, false⟩
theorem qE1 : (Vm.new 100).write (⟨#[106, 111, 117, 114, 110, 97, 108]⟩ : ByteArray).data.toList [1] = (0, qV1) := by rfl
theorem qE2 : rcv qV1 = (0, qV2) := by rfl
theorem qE3 : qV2.now.map (·.1) = [] := by rfl
theorem qE0 : cmt (Vm.new 100) [] = (1, Vm.new 100) := by rfl
theorem qL1 : Lim qV1 10 := by have := ((Lim.new 100).write (⟨#[106, 111, 117, 114, 110, 97, 108]⟩ : ByteArray).data.toList [1]).more (M := 10) (by decide); rw [qE1] at this; exact this
theorem qL2 : Lim qV2 10 := ⟨by decide, by decide, by decide, by decide, List.Pairwise.nil⟩
theorem fr_nil (w : World) (P : Nat → Prop) (A : Option Addr) : Fr w P A 0 [] := ⟨rfl, fun k x h => by simp at h⟩
theorem qCommit {w : World} {B p : Nat} (h : Vp w B p (Vm.new 100)) : Calls Try.prog 26 #[.pointer (some ⟨p, 0, none⟩), .slice none 0 0] w (Did (.int .i64 1) (Vm.new 100) B p w) := by
  have := commit_any (c := 0) h (Lim.new 100) (fr_nil w (fun _ => False) none) (fun g hg => hg.elim) (by decide) (Nat.le_refl _) (by decide)
  rw [qE0] at this
  exact this
theorem qWrite {w : World} {B p : Nat} (h : Vp w B p (Vm.new 100)) (A : Nat) (hA : A = w.heap.size) : Calls Try.prog 19 #[.pointer (some ⟨p, 0, none⟩), .string ⟨#[106, 111, 117, 114, 110, 97, 108]⟩, .slice (some ⟨A, 0, none⟩) 1 1] (w.alloc (Obj.cells #[.int .u8 1] 5)) (Did (.int .i64 0) qV1 B p (w.alloc (Obj.cells #[.int .u8 1] 5))) := by
  have h0 := write_any (s := ⟨#[106, 111, 117, 114, 110, 97, 108]⟩) (c := 1) (h.below ((Below.refl _ _).alloc (Nat.le_refl _) (Obj.cells #[.int .u8 1] 5))) (Lim.new 100) (sees_new w [1] rfl) (by decide) (by decide)
  rw [qE1] at h0
  rw [hA]
  exact h0
theorem qRecover {w : World} {B p : Nat} (h : Vp w B p qV1) : Calls Try.prog 29 #[.pointer (some ⟨p, 0, none⟩)] w (Did (.int .i64 0) qV2 B p w) := by
  have := recover_any h qL1 (by decide)
  rw [qE2] at this
  exact this
theorem qNames {w : World} {B p : Nat} (h : Vp w B p qV2) : Calls Try.prog 32 #[.pointer (some ⟨p, 0, none⟩)] w (NamesP [] w) := by
  have h0 := names_any h qL2 (by decide)
  rw [qE3] at h0
  exact h0
set_option maxHeartbeats 2000000 in
theorem known16_any (w : World) : Calls Try.prog 23 #[] w fun e w' => e = .returned (.bool true) ∧ Below w.heap.size w w' := by
  go_enter Try.func23, Try.ntmps23
  go_wp2_with (first
    | (go_at_call 14; (with_reducible refine (new_any _ _).mono ?_); rintro e W1 ⟨rfl, hbx1, hb1, hz1⟩; have hv1 := Vp.fresh (B := w.heap.size + 1) hbx1 (Nat.lt_succ_self _) (by rw [hz1]; exact Nat.le_refl _); have HV1 := Lib.hid hv1; have HB1 := Lib.hid hb1; have HZ1 := Lib.hid hz1; clear hv1 hb1 hz1 hbx1)
    | (go_at_call 26; (with_reducible refine (qCommit HV1.out).mono ?_); rintro e W2 ⟨rfl, hv2, hm2⟩; have HV2 := Lib.hid hv2; have HM2 := Lib.hid hm2; clear hv2 hm2)
    | (go_at_call 19; (with_reducible refine (qWrite HV2.out _ rfl).mono ?_); rintro e W3 ⟨rfl, hv3, hm3⟩; have HV3 := Lib.hid hv3; have HM3 := Lib.hid hm3; clear hv3 hm3)
    | (go_at_call 29; (with_reducible refine (qRecover HV3.out).mono ?_); rintro e W4 ⟨rfl, hv4, hm4⟩; have HV4 := Lib.hid hv4; have HM4 := Lib.hid hm4; clear hv4 hm4)
    | (go_at_call 32; (with_reducible refine (qNames HV4.out).mono ?_); rintro e W5 ⟨A5, c5, rfl, ho5, hb5⟩; have HB5 := Lib.hid hb5; clear ho5 hb5))
  go_ret
  have hm : Mo (w.heap.size + 1) w.heap.size W1 W5 := (((HM2.out.trans (Mo.of ((Below.refl _ _).alloc (Nat.le_refl _) _))).trans HM3.out).trans HM4.out).trans (Mo.of HB5.out)
  exact ⟨rfl, HB1.out.trans (hm.below (by omega) (Nat.le_refl _) HB1.out.size)⟩

/-- Raw files that are not too much. -/
def fewB (l : FL) : Bool := (l.all fun x => decide (x.2.length ≤ 9000) && decide (x.1.length ≤ 40)) && decide (l.length ≤ 10)
theorem few_ok {l : FL} (h : fewB l = true) : l.length ≤ 10 ∧ ∀ x ∈ l, x.2.length ≤ 9000 ∧ x.1.length ≤ 40 := by
  unfold fewB at h
  rw [Bool.and_eq_true, List.all_eq_true] at h
  refine ⟨of_decide_eq_true h.2, fun x hx => ?_⟩
  have := h.1 x hx
  rw [Bool.and_eq_true] at this
  exact ⟨of_decide_eq_true this.1, of_decide_eq_true this.2⟩
theorem all_next {α : Type} {p : α → Bool} {l : List α} {k : Nat} {x : α} (h : l[k]? = some x) : (l.drop k).all p = (p x && (l.drop (k + 1)).all p) := by
  obtain ⟨hk, rfl⟩ := List.getElem?_eq_some_iff.1 h
  rw [List.drop_eq_getElem_cons hk, List.all_cons]
set_option maxHeartbeats 4000000 in
theorem few_any (l : FL) (A : Option Addr) (n c : Nat) (w : World) (h : Fr w (fun g => g < w.heap.size) A n l) (hn : n ≤ maxLen) :
    Calls Try.prog 24 #[.slice A n c] w fun e w' => e = .returned (.bool (fewB l)) ∧ w = w' := by
  have HH := Lib.hid h
  have hnl := h.len
  obtain ⟨p, hp⟩ : ∃ p : BS × BS → Bool, p = fun x => decide (x.2.length ≤ 9000) && decide (x.1.length ≤ 40) := ⟨_, rfl⟩
  have hfb : fewB l = (l.all p && decide (l.length ≤ 10)) := by rw [hp]; rfl
  have HFB := Lib.hid hfb
  have HPP := Lib.hid hp
  have HNL := Lib.hid hnl
  have hmx : n ≤ 9223372036854775807 := by unfold maxLen at hn; omega
  clear h hn hfb hp hnl
  go_enter Try.func24, Try.ntmps24
  go_wp2_with fail
  go_loopw [3] (fun i wr => ∃ (k : Nat), k ≤ n ∧ i = .int .i64 (k : Int) ∧ Hid (l.all p = (l.drop k).all p) ∧ w = wr) (fun i _ => n - (intOf i).toNat)
  case atStart => exact ⟨0, Nat.zero_le _, rfl, Lib.hid rfl, rfl⟩
  case round =>
    obtain ⟨k, hk, rfl, HA, hw⟩ := hrel
    subst hw
    by_cases hlt : k < n
    · obtain ⟨⟨s, xb⟩, hx⟩ : ∃ x, l[k]? = some x := ⟨_, List.getElem?_eq_getElem (by have := HNL.out; omega)⟩
      obtain ⟨b, o, Af, nf, cf, rfl, hbl, hc1, hc2, hsf, _, hcm⟩ := HH.out.at_ k (s, xb) hx
      have hlen : nf = xb.length := hsf.len
      subst hlen
      simp only at hc1 hc2
      have hkn : (k : Int) < (n : Int) := by omega
      have hk0 : (0 : Int) ≤ (k : Int) := by omega
      have hnx := all_next (p := p) hx
      have HLT := Lib.hid hlt
      by_cases f1 : 9000 < xb.length
      · have f1' : (9000 : Int) < (xb.length : Int) := by omega
        have HR : Hid (fewB l = false) := Lib.hid (by rw [HFB.out, HA.out, hnx, HPP.out]; simp; intro h; omega)
        clear hnx hlt hx hsf hcm f1
        go_wp2_with fail
        go_ret
        exact ⟨by rw [HR.out]; rfl, rfl⟩
      have f1' : ¬ (9000 : Int) < (xb.length : Int) := by omega
      by_cases f2 : 40 < s.length
      · have f2' : (40 : Int) < (s.length : Int) := by omega
        have HR : Hid (fewB l = false) := Lib.hid (by rw [HFB.out, HA.out, hnx, HPP.out]; simp; intro _ h; omega)
        clear hnx hlt hx hsf hcm f1 f2
        go_wp2_with fail
        go_ret
        exact ⟨by rw [HR.out]; rfl, rfl⟩
      have f2' : ¬ (40 : Int) < (s.length : Int) := by omega
      have HA2 : Hid (l.all p = (l.drop (k + 1)).all p) := Lib.hid (by rw [HA.out, hnx, HPP.out]; simp; intro _; omega)
      clear hnx hlt hx hsf hcm f1 f2
      go_wp2_with fail
      go_roundw
      case rel => exact ⟨k + 1, HLT.out, by go_num, HA2, trivial⟩
      case measure => have := HLT.out; simp [intOf]; omega
    · obtain rfl : k = n := by omega
      have hkn : ¬ (k : Int) < (k : Int) := by omega
      have hr : fewB l = decide ((k : Int) ≤ 10) := by
        rw [HFB.out, HA.out, List.drop_of_length_le (by have := HNL.out; omega), ← HNL.out]
        simp
        omega
      have HR := Lib.hid hr
      clear hr
      go_wp2_with fail
      go_ret
      exact ⟨by rw [HR.out]; rfl, rfl⟩

/-- Files of these bytes, by the four names. -/
def gd (cs : List BS) : FL := List.zipWith (fun k b => (k, b)) nm4 cs
def goodC (m : Nat) (l : FL) : List BS := (l.take m).map fun x => x.2.take 60
def nmK (k : Nat) : BS := nm4.getD k []
theorem gd_length {cs : List BS} (h : cs.length ≤ 4) : (gd cs).length = cs.length := by
  unfold gd
  rw [List.length_zipWith]
  simp [nm4]
  omega
theorem gd_snoc {cs : List BS} {b : BS} (h : cs.length < 4) : gd (cs ++ [b]) = gd cs ++ [(nmK cs.length, b)] := by
  match cs, h with
  | [], _ => rfl
  | [_], _ => rfl
  | [_, _], _ => rfl
  | [_, _, _], _ => rfl
theorem goodC_next {l : FL} {k : Nat} {x : BS × BS} (h : l[k]? = some x) : goodC (k + 1) l = goodC k l ++ [x.2.take 60] := by
  obtain ⟨hl, rfl⟩ := List.getElem?_eq_some_iff.1 h
  unfold goodC
  rw [List.take_succ_eq_append_getElem hl, List.map_append]
  rfl
/-- Cells of files whose bytes lie in blocks that P picks. -/
def RowP (w : World) (P : Nat → Prop) : List Value → FL → Prop
  | [], [] => True
  | .string s :: .slice A n c :: vs, x :: r => s = ⟨x.1.toArray⟩ ∧ SeesP w P A n x.2 ∧ n ≤ c ∧ c ≤ maxLen ∧ RowP w P vs r
  | _, _ => False
theorem RowP.keep {w w' : World} {P : Nat → Prop} (hk : ∀ g, P g → w'.heap[g]? = w.heap[g]?) : ∀ {vs : List Value} {l : FL}, RowP w P vs l → RowP w' P vs l
  | [], [], _ => trivial
  | .string _ :: .slice _ _ _ :: _, _ :: _, ⟨h1, h2, h3, h4, h5⟩ => ⟨h1, h2.keep hk, h3, h4, RowP.keep hk h5⟩
theorem RowP.mono {w : World} {P P' : Nat → Prop} (hk : ∀ g, P g → P' g) : ∀ {vs : List Value} {l : FL}, RowP w P vs l → RowP w P' vs l
  | [], [], _ => trivial
  | .string _ :: .slice _ _ _ :: _, _ :: _, ⟨h1, h2, h3, h4, h5⟩ => ⟨h1, h2.more hk, h3, h4, RowP.mono hk h5⟩
theorem RowP.app {w : World} {P : Nat → Prop} : ∀ {vs us : List Value} {s t : FL}, RowP w P vs s → RowP w P us t → RowP w P (vs ++ us) (s ++ t)
  | [], _, [], _, _, h2 => h2
  | .string _ :: .slice _ _ _ :: _, _, _ :: _, _, ⟨h1, h2, h3, h4, h5⟩, h6 => ⟨h1, h2, h3, h4, RowP.app h5 h6⟩
theorem RowP.length {w : World} {P : Nat → Prop} : ∀ {vs : List Value} {l : FL}, RowP w P vs l → vs.length = l.length * 2
  | [], [], _ => rfl
  | .string _ :: .slice _ _ _ :: _, _ :: _, ⟨_, _, _, _, h5⟩ => by
    have := RowP.length h5
    simp only [List.length_cons]
    omega
theorem RowP.get {w : World} {P : Nat → Prop} : ∀ {vs : List Value} {l : FL} (i : Nat) {x : BS × BS}, RowP w P vs l → l[i]? = some x → ∃ A n c, vs[i * 2]? = some (.string ⟨x.1.toArray⟩) ∧ vs[i * 2 + 1]? = some (.slice A n c) ∧ SeesP w P A n x.2 ∧ n ≤ c ∧ c ≤ maxLen
  | [], [], _, _, _, h => by simp at h
  | .string _ :: .slice A n c :: _, y :: _, 0, x, ⟨h1, h2, h3, h4, _⟩, h => by
    obtain rfl : y = x := by simpa using h
    exact ⟨A, n, c, by rw [h1]; rfl, rfl, h2, h3, h4⟩
  | .string _ :: .slice _ _ _ :: _, _ :: _, i + 1, x, ⟨_, _, _, _, h5⟩, h => by
    obtain ⟨A, n, c, g1, g2, g3⟩ := RowP.get i h5 (by simpa using h)
    refine ⟨A, n, c, ?_, ?_, g3⟩
    · rw [show (i + 1) * 2 = i * 2 + 2 by omega]; simpa using g1
    · rw [show (i + 1) * 2 + 1 = i * 2 + 1 + 2 by omega]; simpa using g2
/-- A row of files of one's own. -/
theorem own_fr {w : World} {base n c : Nat} {A : Option Addr} {vs : List Value} {l : FL} {P : Nat → Prop} (ho : w.ownsRow base 56 2 (.slice A n c) n vs) (hr : RowP w P vs l) (hP : ∀ g, base ≤ g → g < w.heap.size → P g) : Fr w P A n l := by
  have hl := hr.length
  have h0 := ho.1
  refine ⟨by omega, fun k x hk => ?_⟩
  obtain ⟨A', n', c', g1, g2, g3, g4⟩ := hr.get k hk
  have hkl : k < l.length := (List.getElem?_eq_some_iff.1 hk).1
  rcases ho.2 with ⟨e, hn⟩ | ⟨g, cap, cur, e, hg, hh, h1, h2, h3, h4⟩
  · omega
  · injection e with e1 e2 e3
    have ht : ∀ j u, vs[j]? = some u → w.cell? ⟨g, 0 + j, none⟩ = some u := fun j u hu => by
      rw [cell_of_row _ _ _ _ _ _ hh, Nat.zero_add]
      have h5 : (cur.toList.take (n * 2))[j]? = some u := by rw [h4]; exact hu
      rw [List.getElem?_take] at h5
      split at h5
      · simpa using h5
      · cases h5
    exact ⟨g, 0, A', n', c', e1, hP g hg (Array.getElem?_eq_some_iff.1 hh).1, ht _ _ g1, ht _ _ g2, g3, g4⟩
theorem elem_cfile : Elem Try.prog 47 56 (.agg #[.string ⟨#[]⟩, .slice none 0 0]) 2 40 := ⟨Try.underlying47, by kernel_rfl, rfl, by omega⟩
theorem src_cfile {V : World} {a b : Value} {g : Nat} (hV : V.heap[g]? = some (.cells #[a, b] 56 (0, 0))) (ha : a.oneCell' = true) (hb : b.oneCell' = true) :
    Src Try.prog 2 47 (.slice (some ⟨g, 0, none⟩) 1 1) 1 [a, b] V :=
  Src.laid Try.underlying47 rfl (fun j u hu => by rw [cell_of_row _ _ _ _ _ _ hV, ← hu]; simp) (fun u hu => by
    simp only [List.mem_cons, List.not_mem_nil, or_false] at hu
    rcases hu with rfl | rfl
    · exact ha
    · exact hb)
/-- Good, so far. -/
structure Gi (w wr : World) (A : Option Addr) (c k : Nat) (l : FL) : Prop where
  row : ∃ vs, wr.ownsRow w.heap.size 56 2 (.slice A k c) k vs ∧ RowP wr (fun g => g < w.heap.size) vs (gd (goodC k l))
  below : Below w.heap.size w wr
def nmsV : List Value := [.string ⟨#[97]⟩, .string ⟨#[98]⟩, .string ⟨#[111]⟩, .string ⟨#[120]⟩]
theorem nmsV_get {k : Nat} (h : k < 4) : nmsV[k]? = some (.string ⟨(nmK k).toArray⟩) := by
  match k, h with
  | 0, _ => rfl
  | 1, _ => rfl
  | 2, _ => rfl
  | 3, _ => rfl
theorem goodC_length {m : Nat} {l : FL} : (goodC m l).length = min m l.length := by simp [goodC]
set_option maxHeartbeats 4000000 in
theorem good_any (l : FL) (A : Option Addr) (n c m : Nat) (w : World) (h : Fr w (fun g => g < w.heap.size) A n l) (hm : m ≤ 4) (hn : n ≤ maxLen) :
    Calls Try.prog 25 #[.slice A n c, .int .i64 (m : Int)] w fun e w' => ∃ A' N c', e = .returned (.slice A' N c') ∧ Fr w' (fun g => g < w'.heap.size) A' N (gd (goodC m l)) ∧ N ≤ c' ∧ N ≤ 4 ∧ Below w.heap.size w w' := by
  have HH := Lib.hid h
  have hnl := h.len
  have HNL := Lib.hid hnl
  have hmx : n ≤ 9223372036854775807 := by unfold maxLen at hn; omega
  clear h hn hnl
  go_enter Try.func25, Try.ntmps25
  go_wp2_with fail
  go_loopw [5, 6] (fun s i wr => ∃ (k : Nat) (A' : Option Addr) (c' : Nat), k ≤ n ∧ k ≤ m ∧ i = .int .i64 (k : Int) ∧ s = .slice A' k c' ∧ Hid (Gi w wr A' c' k l)) (fun _ i _ => n - (intOf i).toNat)
  case atStart => exact ⟨0, none, 0, Nat.zero_le _, Nat.zero_le _, rfl, rfl, Lib.hid ⟨⟨[], World.ownsRow_nil _ _ _ _, trivial⟩, Below.refl _ _⟩⟩
  case round =>
    obtain ⟨k, A', c', hk, hkm, rfl, rfl, HG⟩ := hrel
    by_cases hlt : k < n ∧ k < m
    · obtain ⟨⟨s, xb⟩, hx⟩ : ∃ x, l[k]? = some x := ⟨_, List.getElem?_eq_getElem (by have := HNL.out; omega)⟩
      obtain ⟨b, o, Af, nf, cf, rfl, hbl, hc1, hc2, hsf, hnc, hcm⟩ := (HH.out.below HG.out.below).at_ k (s, xb) hx
      have hlen : nf = xb.length := hsf.len
      subst hlen
      simp only at hc1 hc2 hsf
      have hkn : (k : Int) < (n : Int) := by omega
      have hkm' : (k : Int) < (m : Int) := by omega
      have hk0 : (0 : Int) ≤ (k : Int) := by omega
      have hk4 : (k : Int) < 4 := by omega
      have hrem : (k : Int).tmod 4 = (k : Int) := Int.tmod_eq_of_lt hk0 hk4
      obtain ⟨t, ht⟩ : ∃ t, t = min xb.length 60 := ⟨_, rfl⟩
      obtain ⟨X, hX⟩ : ∃ X, X = Obj.cells nmsV.toArray 9 := ⟨_, rfl⟩
      obtain ⟨Y, hY⟩ : ∃ Y, Y = Obj.cells #[.string ⟨(nmK k).toArray⟩, .slice Af t cf] 56 := ⟨_, rfl⟩
      have hbw : b < wr.heap.size := Nat.lt_of_lt_of_le hbl HG.out.below.size
      have d1 : (wr.alloc X).cell? ⟨b, o + k * 2 + 1, none⟩ = some (.slice Af xb.length cf) := (World.cell?_alloc_lt wr X _ hbw).trans hc2
      have d2 : (wr.alloc X).cell? ⟨wr.heap.size, k, none⟩ = some (.string ⟨(nmK k).toArray⟩) := by
        rw [hX, cell_of_row _ _ _ _ _ _ (heap_alloc_new wr _), List.getElem?_toArray]
        exact nmsV_get (by omega)
      obtain ⟨vs, ho, hr⟩ := HG.out.row
      have hsrc := src_cfile (V := ((wr.alloc X).alloc Y).drew) (g := (wr.alloc X).heap.size) (a := .string ⟨(nmK k).toArray⟩) (b := .slice Af t cf) (by rw [hY]; exact heap_alloc_new (wr.alloc X) _) rfl rfl
      obtain ⟨A5, c5, w5, hr5, ho5, hg5, _⟩ := run_append_row 47 elem_cfile ((ho.alloc X).alloc Y).drew hsrc (by omega) (by have := HG.out.below.size; simp; omega)
      have hsz1 : (wr.alloc X).heap.size = wr.heap.size + 1 := World.size_alloc _ _
      rw [hsz1] at hr5
      have d3 : ((wr.alloc X).alloc Y).cell? ⟨b, o + k * 2 + 1, none⟩ = some (.slice Af xb.length cf) := (World.cell?_alloc_lt _ Y _ (by simp; omega)).trans d1
      have d5 : w5.cell? ⟨b, o + k * 2 + 1, none⟩ = some (.slice Af xb.length cf) := (World.cell?_of_block (a := ⟨b, o + k * 2 + 1, none⟩) (hg5.block b (by simp; omega) (fun q => by have := (ho.lt b q.symm).1; omega))).trans d3
      have q0 : wr.drew.cell? ⟨b, o + k * 2 + 1, none⟩ = some (.slice Af xb.length cf) := hc2
      have q1 : (wr.alloc X).drew.cell? ⟨b, o + k * 2 + 1, none⟩ = some (.slice Af xb.length cf) := d1
      have q2 : ((wr.alloc X).alloc Y).drew.cell? ⟨b, o + k * 2 + 1, none⟩ = some (.slice Af xb.length cf) := d3
      have q3 : (wr.alloc X).drew.cell? ⟨wr.heap.size, k, none⟩ = some (.string ⟨(nmK k).toArray⟩) := d2
      have hnx := goodC_next hx
      have hgl : (goodC k l).length = k := by rw [goodC_length]; have := HNL.out; omega
      have hgs := gd_snoc (cs := goodC k l) (b := xb.take 60) (by omega)
      rw [hgl, ← hnx] at hgs
      have hbw5 : Below wr.heap.size wr w5 → True := fun _ => trivial
      have hg5' : Below w.heap.size w w5 := by
        refine HG.out.below.trans ?_
        have hb2 : Below w.heap.size wr ((wr.alloc X).alloc Y).drew := ((Below.refl w.heap.size wr).alloc HG.out.below.size X).alloc (by have := HG.out.below.size; simp; omega) Y |>.drew
        exact hb2.trans ((Below.refl _ _).grown hg5 (by have := HG.out.below.size; simp; omega) fun g hg => (ho.lt g hg).1)
      have hks : ∀ g, g < w.heap.size → w5.heap[g]? = w.heap[g]? := fun g hg => hg5'.block g hg
      have hst : SeesP w5 (fun g => g < w.heap.size) Af t (xb.take 60) := by
        have h1 := (hsf.take (k := t) (by omega : t ≤ xb.length)).keep (w' := w5) fun g hg => (hks g hg).trans (HG.out.below.block g hg).symm
        rwa [show xb.take t = xb.take 60 by
          by_cases e : xb.length ≤ 60
          · rw [List.take_of_length_le (by omega), List.take_of_length_le e]
          · rw [show t = 60 by omega]] at h1
      have hr5' : RowP w5 (fun g => g < w.heap.size) (vs ++ [.string ⟨(nmK k).toArray⟩, .slice Af t cf]) (gd (goodC (k + 1) l)) := by
        rw [hgs]
        exact (hr.keep fun g hg => (hks g hg).trans (HG.out.below.block g hg).symm).app ⟨rfl, hst, by omega, hcm, trivial⟩
      have hgi : Gi w w5 A5 c5 (k + 1) l := ⟨⟨_, ho5, hr5'⟩, hg5'⟩
      have HGI := Lib.hid hgi
      have HLT := Lib.hid hlt
      have htc : (t : Int) ≤ (cf : Int) := by omega
      have ht0 : (0 : Int) ≤ (t : Int) := by omega
      have hnm : nmsV.toArray = #[.string ⟨#[97]⟩, .string ⟨#[98]⟩, .string ⟨#[111]⟩, .string ⟨#[120]⟩] := rfl
      rw [hnm] at hX
      clear hsz1 hx hsf hcm hnc hlt hsrc ho5 hg5 ho hr hnx hgl hgs hbw5 hg5' hks hst hr5' hgi hnm
      by_cases h60 : xb.length ≤ 60
      · have e1 : t = xb.length := by omega
        have h60' : (xb.length : Int) ≤ 60 := by omega
        have hmin : min (xb.length : Int) 60 = (xb.length : Int) := by omega
        subst e1
        subst hX
        subst hY
        clear ht h60
        go_wp2_with fail
        clear d1 d2 d3 hc1 hc2
        go_region_law (refine step_append_run (vs := .slice A' k c') (vx := .slice (some ⟨wr.heap.size + 1, 0, none⟩) 1 1) (v := .slice A5 (k + 1) c5) (w' := w5) rfl (.tmp 18) (.tmp 38) 47 47 rfl rfl rfl hr5 ?_)
        all_goals
          go_wp2_with fail
          go_roundw
          case rel => exact ⟨k + 1, A5, c5, HLT.out.1, HLT.out.2, by go_num, rfl, HGI⟩
          case measure => have := HLT.out; simp [intOf]; omega
      · have e1 : t = 60 := by omega
        have h60' : (60 : Int) < (xb.length : Int) := by omega
        have hmin : min (xb.length : Int) 60 = 60 := by omega
        have h60c : (60 : Int) ≤ (cf : Int) := by omega
        have h600 : (0 : Int) ≤ 60 := by omega
        subst e1
        subst hX
        subst hY
        clear ht h60
        go_wp2_with fail
        clear d1 d2 d3 hc1 hc2
        go_region_law (refine step_append_run (vs := .slice A' k c') (vx := .slice (some ⟨wr.heap.size + 1, 0, none⟩) 1 1) (v := .slice A5 (k + 1) c5) (w' := w5) rfl (.tmp 18) (.tmp 38) 47 47 rfl rfl rfl hr5 ?_)
        all_goals
          go_wp2_with fail
          go_roundw
          case rel => exact ⟨k + 1, A5, c5, HLT.out.1, HLT.out.2, by go_num, rfl, HGI⟩
          case measure => have := HLT.out; simp [intOf]; omega
    · have hgd : goodC k l = goodC m l := by
        unfold goodC
        by_cases e : k = m
        · rw [e]
        · have : k = n := by omega
          rw [List.take_of_length_le (by have := HNL.out; omega), List.take_of_length_le (by have := HNL.out; omega)]
      obtain ⟨vs, ho, hr⟩ := HG.out.row
      have hcap : k ≤ c' := by
        rcases ho.2 with ⟨e, e2⟩ | ⟨g, cap, cur, e, _, _, h1, _⟩
        · omega
        · injection e with _ _ e3; omega
      have hfr := own_fr (P := fun g => g < wr.heap.size) ho (hr.mono fun g hg => Nat.lt_of_lt_of_le hg HG.out.below.size) (fun g _ h => h)
      rw [hgd] at hfr
      have HFR := Lib.hid hfr
      have HCAP := Lib.hid hcap
      clear ho hr hfr hgd hcap
      by_cases hkn : k < n
      · have hkn' : (k : Int) < (n : Int) := by omega
        have hkm' : ¬ (k : Int) < (m : Int) := by omega
        go_wp2_with fail
        go_ret
        exact ⟨A', k, c', rfl, HFR.out, HCAP.out, by omega, HG.out.below⟩
      · have hkn' : ¬ (k : Int) < (n : Int) := by omega
        go_wp2_with fail
        go_ret
        exact ⟨A', k, c', rfl, HFR.out, HCAP.out, by omega, HG.out.below⟩
end Go.Proofs.Ytpaaafdnkehmfaa.Vf
