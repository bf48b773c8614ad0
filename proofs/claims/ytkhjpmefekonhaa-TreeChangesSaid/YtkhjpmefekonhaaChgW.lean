/- TreeChanges, walked. Conditions: none. -/
import Derived.Test.YtkhjpmefekonhaaMgRp
import Derived.Test.YtkhjpmefekonhaaMgRt
import Derived.Test.YtkhjpmefekonhaaTSame
import Derived.Test.YtkhjpmefekonhaaSizes
import Derived.Test.YtkhjpmefekonhaaDepths
import Derived.Test.YtkhjpmefekonhaaSize2
import Derived.Test.YtkhjpmefekonhaaDepth2
import Derived.Test.YtkhjpmefekonhaaOwnW
import Derived.Outline
namespace Go.Proofs.Ytkhjpmefekonhaa.Pt
open Go.RowKit Go.Proofs.Ytkhjpmefekonhaa.Jd Go.Proofs.Ytkhjpmefekonhaa.Cl
set_option maxRecDepth 100000

/-- The k-th. -/
def nm (ns : List (List UInt8)) (k : Nat) : ByteArray := ⟨(ns.getD k []).toArray⟩
theorem nm_eq {ns : List (List UInt8)} {k : Nat} (h : k < ns.length) : nm ns k = ⟨ns[k].toArray⟩ := by simp [nm, List.getD, List.getElem?_eq_getElem h]
theorem sees_all {w : World} {B n : Nat} {A : Option Addr} {l : List (List UInt8)} (h : SeesV w B A n (l.map encs)) : l.length = 0 ∨ ∃ b o, A = some ⟨b, o, none⟩ ∧ b < B ∧ ∀ k, k < l.length → w.cell? ⟨b, o + k, none⟩ = some (.string (nm l k)) := by
  have hc : ∀ k (hk : k < l.length), ∃ b o, A = some ⟨b, o, none⟩ ∧ b < B ∧ w.cell? ⟨b, o + k, none⟩ = some (.string (nm l k)) := fun k hk => h.cell k _ (by rw [List.getElem?_map, List.getElem?_eq_getElem hk, nm_eq hk]; rfl)
  rcases Nat.eq_zero_or_pos l.length with g | g
  · exact .inl g
  · right
    obtain ⟨b, o, rfl, hb, _⟩ := hc 0 g
    refine ⟨b, o, rfl, hb, fun k hk => ?_⟩
    obtain ⟨b', o', e, _, hck⟩ := hc k hk
    cases e
    exact hck
theorem getT_size' : ∀ (ps : List ByteArray) (t : Tr), (getT t ps).1.size ≤ t.size
  | [], _ => Nat.le_refl _
  | p :: ps, t => by
    rw [getT]
    split
    · exact Nat.le_trans (getT_size' ps _) (kidT_size t p)
    · exact Nat.zero_le _
section
variable {W : World} {A A2 Ap : Option Addr} {n c n2 c2 np cp : Nat} {t u x z : Tr} {ps : List ByteArray}
theorem sizeT_ok (h : OkT W A n c t) (hz : t.size ≤ 1000000) {N : Nat} (hN : t.size = N) : Calls Try.prog 26 #[.slice A n c] W fun e w' => e = .returned (.int .i64 (N : Nat)) ∧ Below W.heap.size W w' := by
  subst hN
  have hl := h.holds.len
  subst hl
  exact size_any A c t W h.holds h.cap.1 h.cap.2 (by omega)
theorem sizeR_ok (h : OkT W A n c t) (hz : t.size ≤ 1000000) {N : Nat} (hN : t.size = N) : Calls Try.prog 27 #[.slice A n c] W fun e w' => e = .returned (.int .i64 (N : Nat)) ∧ Below W.heap.size W w' := by
  subst hN
  exact (rsize_any t.size t A n c W.heap.size W (Nat.le_refl _) h.holds (Nat.le_refl _) (by omega)).mono fun _ _ ⟨e, hw⟩ => ⟨e, hw ▸ Below.refl _ _⟩
theorem deepT_ok (h : OkT W A n c t) (hz : t.size ≤ 1000000) {N : Nat} (hN : t.depth = N) : Calls Try.prog 28 #[.slice A n c] W fun e w' => e = .returned (.int .i64 (N : Nat)) ∧ Below W.heap.size W w' := by
  subst hN
  have hl := h.holds.len
  subst hl
  exact deep_any A c t W h.holds h.cap.1 h.cap.2 (by omega)
theorem deepR_ok (h : OkT W A n c t) (hz : t.size ≤ 1000000) {N : Nat} (hN : t.depth = N) : Calls Try.prog 29 #[.slice A n c] W fun e w' => e = .returned (.int .i64 (N : Nat)) ∧ Below W.heap.size W w' := by
  subst hN
  exact (rdepth_any t.size t A n c W.heap.size W (Nat.le_refl _) h.holds (Nat.le_refl _) (by omega)).mono fun _ _ ⟨e, hw⟩ => ⟨e, hw ▸ Below.refl _ _⟩
theorem textO_ok (h : OkT W A n c t) (hs : Short t) (hz : t.size ≤ 1000000) {V : ByteArray} (hV : ba t.text = V) : Calls Try.prog 18 #[.slice A n c] W fun e w' => e = .returned (.string V) ∧ Below W.heap.size W w' := by
  subst hV
  exact (rtext_any t.size t A n c W.heap.size W (Nat.le_refl _) h.holds (Nat.le_refl _) (by omega) (by have := short_text hs; omega)).mono fun _ _ ⟨e, q, hw⟩ => ⟨e, hw ▸ below_drewN (Below.refl _ _) q⟩
theorem tsame_ok (h : OkT W A n c t) (h2 : OkT W A2 n2 c2 u) (hz : t.size ≤ 1000000) {v : Bool} (hv : t.same u = v) : Calls Try.prog 32 #[.slice A n c, .slice A2 n2 c2] W fun e w' => e = .returned (.bool v) ∧ Below W.heap.size W w' := by
  subst hv
  exact tsame_any t u A A2 n n2 c c2 W.heap.size W h.holds h2.holds (Nat.le_refl _) (by omega)
theorem rget_ok (h : OkT W A n c t) (hp : Pth W Ap np cp ps) (hz : t.size ≤ 1000000) {v : Bool} {u : Tr} (he : getT t ps = (u, v)) : Calls Try.prog 20 #[.slice A n c, .slice Ap np cp] W (OkG W u v) := by
  have := rget_any t ps A Ap n c np cp W h hp.sees (by omega) (by have := hp.few; omega)
  rw [he] at this
  exact this.mono fun _ _ ⟨A', n', c', e, h1, q, hq⟩ => by
    have hb : Below W.heap.size W (W.drewN q) := below_drewN (Below.refl _ _) q
    subst hq
    exact ⟨A', n', c', e, h1.below hb, hb⟩
theorem rput_ok (h : OkT W A n c t) (h2 : OkT W A2 n2 c2 u) (hp : Pth W Ap np cp ps) (hz : t.size ≤ 1000000) : Calls Try.prog 23 #[.slice A n c, .slice Ap np cp, .slice A2 n2 c2] W (OkP W (putT t ps u)) :=
  rput_any ps t A Ap A2 n c np cp n2 c2 W h h2 hp.sees hp.cap (by omega)
theorem rdrop_ok (h : OkT W A n c t) (hp : Pth W Ap np cp ps) (hz : t.size ≤ 1000000) : Calls Try.prog 25 #[.slice A n c, .slice Ap np cp] W (OkP W (dropP t ps)) :=
  rdrop_any ps t A Ap n c np cp W h hp.sees hp.cap (by have := hp.few; omega) (by omega)
def OkNs (W : World) (ns : List (List UInt8)) (e : Ending) (w' : World) : Prop := ∃ A' c', e = .returned (.slice A' ns.length c') ∧ SeesV w' w'.heap.size A' ns.length (ns.map encs) ∧ Below W.heap.size W w'
theorem namesT_ok (h : OkT W A n c t) (h2 : OkT W A2 n2 c2 u) (hz : t.size ≤ 1000000) (hz2 : u.size ≤ 1000000) {ns : List (List UInt8)} (hns : namesOf (t.names ++ u.names) = ns) :
    Calls Try.prog 30 #[.slice (some ⟨W.heap.size, 0, none⟩) 3 3] (W.alloc (Obj.cells #[.slice A n c, .slice A2 n2 c2, .slice A n c] 27)) (OkNs W ns) := by
  have hl := t.len_size
  have hl2 := u.len_size
  have hN := names_any [⟨A, n, c, t⟩, ⟨A2, n2, c2, u⟩, ⟨A, n, c, t⟩] (some ⟨W.heap.size, 0, none⟩) 3 3 (W.heap.size + 1) (W.alloc (Obj.cells #[.slice A n c, .slice A2 n2 c2, .slice A n c] 27)) (by
    intro j x hx
    refine ⟨_, _, rfl, by omega, ?_, ?_⟩
    · rw [cell_of_row _ _ _ _ _ _ (heap_alloc_new W _), Nat.zero_add]
      match j, hx with
      | 0, hx => cases hx; rfl
      | 1, hx => cases hx; rfl
      | 2, hx => cases hx; rfl
      | j + 3, hx => simp at hx
    · match j, hx with
      | 0, hx => cases hx; exact (h.holds.keep fun p hp => World.cell?_alloc_lt _ _ _ hp).more (by omega)
      | 1, hx => cases hx; exact (h2.holds.keep fun p hp => World.cell?_alloc_lt _ _ _ hp).more (by omega)
      | 2, hx => cases hx; exact (h.holds.keep fun p hp => World.cell?_alloc_lt _ _ _ hp).more (by omega)
      | j + 3, hx => simp at hx) rfl (by simp) (by simp [allNames, names_length]; omega) (by simp)
  have e1 : namesOf (allNames [⟨A, n, c, t⟩, ⟨A2, n2, c2, u⟩, ⟨A, n, c, t⟩]) = ns := by
    rw [← hns]
    refine asc_eq (namesOf_pair _) (namesOf_pair _) (fun x => ?_)
    rw [namesOf_mem, namesOf_mem]
    simp only [allNames, List.flatMap_cons, List.flatMap_nil, List.append_nil, List.map_append, List.mem_append]
    constructor
    · rintro (h | h | h)
      · exact .inl h
      · exact .inr h
      · exact .inl h
    · rintro (h | h)
      · exact .inl h
      · exact .inr (.inl h)
  rw [e1] at hN
  exact hN.mono fun _ _ ⟨A', c', e, hs, hb⟩ => ⟨A', c', e, hs, ((Below.refl _ W).alloc (Nat.le_refl _) _).trans (hb.mono (by simp))⟩
theorem namesR_ok (h : OkT W A n c t) (h2 : OkT W A2 n2 c2 u) (hz : t.size ≤ 1000000) (hz2 : u.size ≤ 1000000) {ns : List (List UInt8)} (hns : namesOf (t.names ++ u.names) = ns) :
    Calls Try.prog 31 #[.slice (some ⟨W.heap.size, 0, none⟩) 2 2] (W.alloc (Obj.cells #[.slice A n c, .slice A2 n2 c2] 27)) (OkNs W ns) := by
  have hl := t.len_size
  have hl2 := u.len_size
  have hN := rnames_any [⟨A, n, c, t⟩, ⟨A2, n2, c2, u⟩] (some ⟨W.heap.size, 0, none⟩) 2 2 (W.heap.size + 1) (W.alloc (Obj.cells #[.slice A n c, .slice A2 n2 c2] 27)) (by
    intro j x hx
    refine ⟨_, _, rfl, by omega, ?_, ?_⟩
    · rw [cell_of_row _ _ _ _ _ _ (heap_alloc_new W _), Nat.zero_add]
      match j, hx with
      | 0, hx => cases hx; rfl
      | 1, hx => cases hx; rfl
      | j + 2, hx => simp at hx
    · match j, hx with
      | 0, hx => cases hx; exact (h.holds.keep fun p hp => World.cell?_alloc_lt _ _ _ hp).more (by omega)
      | 1, hx => cases hx; exact (h2.holds.keep fun p hp => World.cell?_alloc_lt _ _ _ hp).more (by omega)
      | j + 2, hx => simp at hx) rfl (by simp) (by simp [allNames, names_length]; omega) (by simp)
  have e1 : namesOf (allNames [⟨A, n, c, t⟩, ⟨A2, n2, c2, u⟩]) = ns := by rw [← hns]; simp [allNames]
  rw [e1] at hN
  exact hN.mono fun _ _ ⟨A', c', e, hs, hb⟩ => ⟨A', c', e, hs, ((Below.refl _ W).alloc (Nat.le_refl _) _).trans (hb.mono (by simp))⟩
end

set_option maxHeartbeats 4000000 in
theorem treeChanges_walk (r s : Tr) (A A2 An : Option Addr) (n n2 nn c c2 cn : Nat) (ns : List Int) (w : World) (h : Holds w w.heap.size A n r) (h2 : Holds w w.heap.size A2 n2 s) (hc : n ≤ c) (hm : c ≤ maxLen) (hc2 : n2 ≤ c2) (hm2 : c2 ≤ maxLen) (hr : r.len ≤ 140737488351232 ∧ r.Fit) (hr2 : s.len ≤ 140737488351232 ∧ s.Fit)
    (hn : SeesV w w.heap.size An nn (ns.map (Value.int .i64))) (hnb : ∀ x ∈ ns, -9223372036854775808 ≤ x ∧ x ≤ 9223372036854775807) :
    Calls Try.prog 4 #[.slice A n c, .slice A2 n2 c2, .slice An nn cn] w fun e w' => e = .returned (.bool true) ∧ Below w.heap.size w w' := by
  have hK := known_any w
  have hF := fun (W : World) (hW : Below w.heap.size w W) => few_any r A n c w.heap.size W (h.below hW) hW.size (by rw [h.len]; exact hr.1) (fit_low hr.2)
  have hF2 := fun (W : World) (hW : Below w.heap.size w W) => few_any s A2 n2 c2 w.heap.size W (h2.below hW) hW.size (by rw [h2.len]; exact hr2.1) (fit_low hr2.2)
  by_cases hs : r.count n 200 < 200
  case neg =>
    rw [decide_eq_false hs] at hF
    have HF := Lib.hid hF
    clear hF hF2 hr hr2 h h2 hs
    go_enter Try.func4, Try.ntmps4
    go_wp2_with fail
    refine hK.mono ?_
    rintro e w1 ⟨rfl, hb1⟩
    go_wp2_with fail
    refine (HF.out w1 hb1).mono ?_
    rintro e _ ⟨rfl, rfl⟩
    go_wp2_with fail
    go_ret
    exact ⟨rfl, hb1⟩
  by_cases hs2 : s.count n2 200 < 200
  case neg =>
    rw [decide_eq_true hs] at hF
    rw [decide_eq_false hs2] at hF2
    have HF := Lib.hid hF
    have HF2 := Lib.hid hF2
    clear hF hF2 hr hr2 h h2 hs hs2
    go_enter Try.func4, Try.ntmps4
    go_wp2_with fail
    refine hK.mono ?_
    rintro e w1 ⟨rfl, hb1⟩
    go_wp2_with fail
    refine (HF.out w1 hb1).mono ?_
    rintro e _ ⟨rfl, rfl⟩
    go_wp2_with fail
    refine (HF2.out w1 hb1).mono ?_
    rintro e _ ⟨rfl, rfl⟩
    go_wp2_with fail
    go_ret
    exact ⟨rfl, hb1⟩
  rw [decide_eq_true hs] at hF
  rw [decide_eq_true hs2] at hF2
  have hrz := few_yes h.len hs
  have hsz := few_yes h2.len hs2
  obtain ⟨t, ht⟩ : ∃ t, t = r.makeT (8 : Int).toNat (8 : Int).toNat (5 : Int).toNat .nil := ⟨_, rfl⟩
  obtain ⟨x, hx⟩ : ∃ t, t = s.makeT (8 : Int).toNat (8 : Int).toNat (5 : Int).toNat .nil := ⟨_, rfl⟩
  have hM := fun (W : World) (hW : Below w.heap.size w W) => make_ok (c := c) r 8 5 w.heap.size (h.below hW) hW.size ⟨hc, hm⟩ hrz (by omega) (by omega) (by omega) (by omega) ht
  have hM2 := fun (W : World) (hW : Below w.heap.size w W) => make_ok (c := c2) s 8 5 w.heap.size (h2.below hW) hW.size ⟨hc2, hm2⟩ hsz (by omega) (by omega) (by omega) (by omega) hx
  have hta : AscD t := by rw [ht]; exact makeT_ascD _ _ _ _ .nil trivial
  have hxa : AscD x := by rw [hx]; exact makeT_ascD _ _ _ _ .nil trivial
  have hts : Short t := by rw [ht]; exact makeT_short _ _ _ _ .nil trivial
  have htz : t.size ≤ 200 := by rw [ht]; have := makeT_size (8 : Int).toNat r (8 : Int).toNat (5 : Int).toNat .nil; simp only [Tr.size] at this; omega
  have hxz : x.size ≤ 200 := by rw [hx]; have := makeT_size (8 : Int).toNat s (8 : Int).toNat (5 : Int).toNat .nil; simp only [Tr.size] at this; omega
  obtain ⟨V, hV⟩ : ∃ v, ba t.text = v := ⟨_, rfl⟩
  obtain ⟨N1, hN1⟩ : ∃ v, t.size = v := ⟨_, rfl⟩
  obtain ⟨N2, hN2⟩ : ∃ v, t.depth = v := ⟨_, rfl⟩
  obtain ⟨sm, hsm⟩ : ∃ v, t.same x = v := ⟨_, rfl⟩
  obtain ⟨ms, hms⟩ : ∃ v, namesOf (t.names ++ x.names) = v := ⟨_, rfl⟩
  have hml : ms.length ≤ 400 := by
    have h1 := namesOf_le (t.names ++ x.names)
    rw [hms, List.length_append, names_length, names_length] at h1
    have := t.len_size
    have := x.len_size
    omega
  have HF := Lib.hid hF
  have HF2 := Lib.hid hF2
  have HM := Lib.hid hM
  have HM2 := Lib.hid hM2
  have HN := Lib.hid hn
  have HV := Lib.hid hV
  have HN1 := Lib.hid hN1
  have HN2 := Lib.hid hN2
  have HSm := Lib.hid hsm
  have HMs := Lib.hid hms
  have eN1 : ((N1 : Int) != (N1 : Int)) = false := by simp
  have eN2 : ((N2 : Int) != (N2 : Int)) = false := by simp
  have eV : (V.toList == V.toList) = true := by simp
  have eS : (sm == sm) = true := by simp
  clear hF hF2 hM hM2 ht hx hs hs2 hrz hsz h h2 hr hr2 hn hV hN1 hN2 hsm hms
  go_enter Try.func4, Try.ntmps4
  go_wp2_with fail
  refine hK.mono ?_
  rintro e w1 ⟨rfl, hb1⟩
  go_wp2_with fail
  refine (HF.out w1 hb1).mono ?_
  rintro e _ ⟨rfl, rfl⟩
  go_wp2_with fail
  refine (HF2.out w1 hb1).mono ?_
  rintro e _ ⟨rfl, rfl⟩
  go_wp2_with fail
  refine (HM.out w1 hb1).mono ?_
  rintro e w2 ⟨At, nt, ct, rfl, ot, hb2⟩
  have hB := hb1.trans (hb2.mono hb1.size)
  have HT := Lib.hid ot
  clear ot
  go_wp2_with fail
  refine (HM2.out w2 hB).mono ?_
  rintro e w3 ⟨Ax, nx, cx, rfl, ox, hb⟩
  replace hB := hB.trans (hb.mono hB.size)
  have HX := Lib.hid ox
  replace HT := Lib.hid (HT.out.below hb)
  clear ox
  go_wp2_with fail
  (with_reducible refine (path_ok HT.out (seesV_more (HN.out.below hB) hB.size) hnb hts (by omega)).mono ?_)
  rintro e w' ⟨Ap, kp, cp, ps, rfl, op, hp30, hb⟩
  replace hB := hB.trans (hb.mono hB.size)
  replace HT := Lib.hid (HT.out.below hb)
  replace HX := Lib.hid (HX.out.below hb)
  have HP := Lib.hid op
  clear op
  have hpf := HP.out.few
  obtain ⟨a, ha⟩ : ∃ a, a = putT t ps x := ⟨_, rfl⟩
  obtain ⟨d, hd⟩ : ∃ a, a = dropP t ps := ⟨_, rfl⟩
  obtain ⟨z, hz⟩ : ∃ a, a = (getT t ps).1 := ⟨_, rfl⟩
  obtain ⟨v, hv⟩ : ∃ a, a = (getT t ps).2 := ⟨_, rfl⟩
  have hzz : z.size ≤ 200 := by rw [hz]; exact Nat.le_trans (getT_size' ps t) htz
  have haz : a.size ≤ 2000 := by rw [ha]; have h1 := putT_size (x := x) ps t 200 htz; have h2 := mul_few (b := 200) (N := 200) hpf (Nat.le_refl _); omega
  have hdz : d.size ≤ 2000 := by rw [hd]; have h1 := dropP_size ps t 200 htz; have h2 := mul_few (b := 200) (N := 200) hpf (Nat.le_refl _); omega
  have hg : getT t ps = (z, v) := by rw [hz, hv]
  have HG := Lib.hid hg
  have eVv : (v != v) = false := by simp
  have HPut := fun (W : World) (h1 : OkT W At nt ct t) (h2 : OkT W Ax nx cx x) (h3 : Pth W Ap kp cp ps) => put_ok h1 h2 h3 hta (by omega) (by omega)
  have HRPut := fun (W : World) (h1 : OkT W At nt ct t) (h2 : OkT W Ax nx cx x) (h3 : Pth W Ap kp cp ps) => rput_ok h1 h2 h3 (by omega)
  have HDrop := fun (W : World) (h1 : OkT W At nt ct t) (h3 : Pth W Ap kp cp ps) => drop_ok h1 h3 hta (by omega)
  have HRDrop := fun (W : World) (h1 : OkT W At nt ct t) (h3 : Pth W Ap kp cp ps) => rdrop_ok h1 h3 (by omega)
  rw [← ha] at HPut HRPut
  rw [← hd] at HDrop HRDrop
  replace HPut := Lib.hid HPut
  replace HRPut := Lib.hid HRPut
  replace HDrop := Lib.hid HDrop
  replace HRDrop := Lib.hid HRDrop
  clear ha hd hz hv hg
  go_wp2_with fail
  (with_reducible refine (textO_ok HT.out hts (by omega) HV.out).mono ?_)
  rintro e w' ⟨rfl, hb⟩
  replace hB := hB.trans (hb.mono hB.size)
  replace HT := Lib.hid (HT.out.below hb)
  replace HX := Lib.hid (HX.out.below hb)
  replace HP := Lib.hid (HP.out.below hb)
  go_wp2_with fail
  (with_reducible refine (get_ok HT.out HP.out hta (by omega) HG.out).mono ?_)
  rintro e w' ⟨Az, nz, cz, rfl, oz, hb⟩
  replace hB := hB.trans (hb.mono hB.size)
  replace HT := Lib.hid (HT.out.below hb)
  replace HX := Lib.hid (HX.out.below hb)
  replace HP := Lib.hid (HP.out.below hb)
  have HZ := Lib.hid oz
  clear oz
  go_wp2_with fail
  (with_reducible refine (rget_ok HT.out HP.out (by omega) HG.out).mono ?_)
  rintro e w' ⟨Az2, nz2, cz2, rfl, oz, hb⟩
  replace hB := hB.trans (hb.mono hB.size)
  replace HT := Lib.hid (HT.out.below hb)
  replace HX := Lib.hid (HX.out.below hb)
  replace HP := Lib.hid (HP.out.below hb)
  replace HZ := Lib.hid (HZ.out.below hb)
  have HZ2 := Lib.hid oz
  clear oz
  go_wp2_with fail
  (with_reducible refine (same_ok HZ.out HZ2.out (by omega) (by omega) (same_refl z)).mono ?_)
  rintro e w' ⟨rfl, hb⟩
  replace hB := hB.trans (hb.mono hB.size)
  replace HT := Lib.hid (HT.out.below hb)
  replace HX := Lib.hid (HX.out.below hb)
  replace HP := Lib.hid (HP.out.below hb)
  replace HZ := Lib.hid (HZ.out.below hb)
  replace HZ2 := Lib.hid (HZ2.out.below hb)
  go_wp2_with fail
  (with_reducible refine (HPut.out _ HT.out HX.out HP.out).mono ?_)
  rintro e w' ⟨Aa, na, ca, rfl, oa, hb⟩
  replace hB := hB.trans (hb.mono hB.size)
  replace HT := Lib.hid (HT.out.below hb)
  replace HX := Lib.hid (HX.out.below hb)
  replace HP := Lib.hid (HP.out.below hb)
  replace HZ := Lib.hid (HZ.out.below hb)
  replace HZ2 := Lib.hid (HZ2.out.below hb)
  have HA := Lib.hid oa
  clear oa
  go_wp2_with fail
  (with_reducible refine (HRPut.out _ HT.out HX.out HP.out).mono ?_)
  rintro e w' ⟨Aa2, na2, ca2, rfl, oa, hb⟩
  replace hB := hB.trans (hb.mono hB.size)
  replace HT := Lib.hid (HT.out.below hb)
  replace HX := Lib.hid (HX.out.below hb)
  replace HP := Lib.hid (HP.out.below hb)
  replace HZ := Lib.hid (HZ.out.below hb)
  replace HZ2 := Lib.hid (HZ2.out.below hb)
  replace HA := Lib.hid (HA.out.below hb)
  have HA2 := Lib.hid oa
  clear oa
  go_wp2_with fail
  (with_reducible refine (same_ok HA.out HA2.out (by omega) (by omega) (same_refl a)).mono ?_)
  rintro e w' ⟨rfl, hb⟩
  replace hB := hB.trans (hb.mono hB.size)
  replace HT := Lib.hid (HT.out.below hb)
  replace HX := Lib.hid (HX.out.below hb)
  replace HP := Lib.hid (HP.out.below hb)
  replace HZ := Lib.hid (HZ.out.below hb)
  replace HZ2 := Lib.hid (HZ2.out.below hb)
  replace HA := Lib.hid (HA.out.below hb)
  replace HA2 := Lib.hid (HA2.out.below hb)
  go_wp2_with fail
  (with_reducible refine (HDrop.out _ HT.out HP.out).mono ?_)
  rintro e w' ⟨Ad, nd, cd, rfl, od, hb⟩
  replace hB := hB.trans (hb.mono hB.size)
  replace HT := Lib.hid (HT.out.below hb)
  replace HX := Lib.hid (HX.out.below hb)
  replace HP := Lib.hid (HP.out.below hb)
  replace HZ := Lib.hid (HZ.out.below hb)
  replace HZ2 := Lib.hid (HZ2.out.below hb)
  replace HA := Lib.hid (HA.out.below hb)
  replace HA2 := Lib.hid (HA2.out.below hb)
  have HD := Lib.hid od
  clear od
  go_wp2_with fail
  (with_reducible refine (HRDrop.out _ HT.out HP.out).mono ?_)
  rintro e w' ⟨Ad2, nd2, cd2, rfl, od, hb⟩
  replace hB := hB.trans (hb.mono hB.size)
  replace HT := Lib.hid (HT.out.below hb)
  replace HX := Lib.hid (HX.out.below hb)
  replace HP := Lib.hid (HP.out.below hb)
  replace HZ := Lib.hid (HZ.out.below hb)
  replace HZ2 := Lib.hid (HZ2.out.below hb)
  replace HA := Lib.hid (HA.out.below hb)
  replace HA2 := Lib.hid (HA2.out.below hb)
  replace HD := Lib.hid (HD.out.below hb)
  have HD2 := Lib.hid od
  clear od
  go_wp2_with fail
  (with_reducible refine (same_ok HD.out HD2.out (by omega) (by omega) (same_refl d)).mono ?_)
  rintro e w' ⟨rfl, hb⟩
  replace hB := hB.trans (hb.mono hB.size)
  replace HT := Lib.hid (HT.out.below hb)
  replace HX := Lib.hid (HX.out.below hb)
  replace HP := Lib.hid (HP.out.below hb)
  replace HZ := Lib.hid (HZ.out.below hb)
  replace HZ2 := Lib.hid (HZ2.out.below hb)
  replace HA := Lib.hid (HA.out.below hb)
  replace HA2 := Lib.hid (HA2.out.below hb)
  replace HD := Lib.hid (HD.out.below hb)
  replace HD2 := Lib.hid (HD2.out.below hb)
  clear HZ HZ2 HA HA2 HD HD2 HPut HRPut HDrop HRDrop HG HP
  go_wp2_with fail
  (with_reducible refine (sizeT_ok HT.out (by omega) HN1.out).mono ?_)
  rintro e w' ⟨rfl, hb⟩
  replace hB := hB.trans (hb.mono hB.size)
  replace HT := Lib.hid (HT.out.below hb)
  replace HX := Lib.hid (HX.out.below hb)
  go_wp2_with fail
  (with_reducible refine (sizeR_ok HT.out (by omega) HN1.out).mono ?_)
  rintro e w' ⟨rfl, hb⟩
  replace hB := hB.trans (hb.mono hB.size)
  replace HT := Lib.hid (HT.out.below hb)
  replace HX := Lib.hid (HX.out.below hb)
  go_wp2_with fail
  (with_reducible refine (deepT_ok HT.out (by omega) HN2.out).mono ?_)
  rintro e w' ⟨rfl, hb⟩
  replace hB := hB.trans (hb.mono hB.size)
  replace HT := Lib.hid (HT.out.below hb)
  replace HX := Lib.hid (HX.out.below hb)
  go_wp2_with fail
  (with_reducible refine (deepR_ok HT.out (by omega) HN2.out).mono ?_)
  rintro e w' ⟨rfl, hb⟩
  replace hB := hB.trans (hb.mono hB.size)
  replace HT := Lib.hid (HT.out.below hb)
  replace HX := Lib.hid (HX.out.below hb)
  go_wp2_with fail
  (with_reducible refine (textO_ok HT.out hts (by omega) HV.out).mono ?_)
  rintro e w' ⟨rfl, hb⟩
  replace hB := hB.trans (hb.mono hB.size)
  replace HT := Lib.hid (HT.out.below hb)
  replace HX := Lib.hid (HX.out.below hb)
  go_wp2_with fail
  (with_reducible refine (namesT_ok HT.out HX.out (by omega) (by omega) HMs.out).mono ?_)
  rintro e w' ⟨Am, cm, rfl, om, hb⟩
  replace hB := hB.trans (hb.mono hB.size)
  replace HT := Lib.hid (HT.out.below hb)
  replace HX := Lib.hid (HX.out.below hb)
  have HQ := Lib.hid om
  clear om
  go_wp2_with fail
  (with_reducible refine (namesR_ok HT.out HX.out (by omega) (by omega) HMs.out).mono ?_)
  rintro e w' ⟨Am2, cm2, rfl, om, hb⟩
  replace hB := hB.trans (hb.mono hB.size)
  replace HT := Lib.hid (HT.out.below hb)
  replace HX := Lib.hid (HX.out.below hb)
  replace HQ := Lib.hid (seesV_more (HQ.out.below hb) hb.size)
  have HQ2 := Lib.hid om
  clear om
  have hcs := sees_all HQ.out
  have hcs2 := sees_all HQ2.out
  obtain ⟨mm, hmm⟩ : ∃ k, k = ms.length := ⟨_, rfl⟩
  rw [← hmm] at hcs hcs2 hml ⊢
  have eM : ((mm : Int) != (mm : Int)) = false := by simp
  have Hcs := Lib.hid hcs
  have Hcs2 := Lib.hid hcs2
  clear hcs hcs2 hmm HQ HQ2 hb
  go_wp2_with fail
  go_loopw [17] (fun i wr => ∃ k : Nat, k ≤ mm ∧ i = .int .i64 k ∧ Below w'.heap.size w' wr) (fun i _ => mm - (intOf i).toNat)
  case atStart => exact ⟨0, Nat.zero_le _, rfl, Below.refl _ _⟩
  case round =>
    obtain ⟨k, hk, rfl, hbw⟩ := hrel
    by_cases hlt : k < mm
    · have hkn : (k : Int) < (mm : Int) := by omega
      have hk0 : (0 : Int) ≤ (k : Int) := by omega
      obtain ⟨b1, o1, rfl, hbl1, hcell1⟩ := Hcs.out.resolve_left (by omega)
      obtain ⟨b2, o2, rfl, hbl2, hcell2⟩ := Hcs2.out.resolve_left (by omega)
      have hck1 := (hbw.cell (p := ⟨b1, o1 + k, none⟩) hbl1).trans (hcell1 k hlt)
      have hck2 := (hbw.cell (p := ⟨b2, o2 + k, none⟩) hbl2).trans (hcell2 k hlt)
      obtain ⟨nk, hnk⟩ : ∃ nk, nk = nm ms k := ⟨_, rfl⟩
      rw [← hnk] at hck1 hck2
      have Hlt2 := Lib.hid hlt
      have Hc1 := Lib.hid hcell1
      have Hc2 := Lib.hid hcell2
      clear hnk hcell1 hcell2 hlt
      go_wp2_with fail
      go_quiet (fail)
      go_wp2_with fail
      go_roundw
      case rel => exact ⟨k + 1, by have := Hlt2.out; omega, by go_num, below_drewN hbw _⟩
      case measure => have := Hlt2.out; simp [intOf]; omega
    · obtain rfl : k = mm := by omega
      replace HT := Lib.hid (HT.out.below hbw)
      replace HX := Lib.hid (HX.out.below hbw)
      replace hB := hB.trans (hbw.mono hB.size)
      clear hlt hbw Hcs Hcs2
      go_wp2_with fail
      (with_reducible refine (tsame_ok HT.out HX.out (by omega) HSm.out).mono ?_)
      rintro e w' ⟨rfl, hb⟩
      replace hB := hB.trans (hb.mono hB.size)
      replace HT := Lib.hid (HT.out.below hb)
      replace HX := Lib.hid (HX.out.below hb)
      go_wp2_with fail
      (with_reducible refine (same_ok HT.out HX.out (by omega) (by omega) HSm.out).mono ?_)
      rintro e w' ⟨rfl, hb⟩
      replace hB := hB.trans (hb.mono hB.size)
      replace HT := Lib.hid (HT.out.below hb)
      replace HX := Lib.hid (HX.out.below hb)
      go_wp2_with fail
      (with_reducible refine (HM.out _ hB).mono ?_)
      rintro e w' ⟨Ay, ny, cy, rfl, oy, hb⟩
      replace hB := hB.trans (hb.mono hB.size)
      replace HT := Lib.hid (HT.out.below hb)
      replace HX := Lib.hid (HX.out.below hb)
      have HY := Lib.hid oy
      clear oy
      go_wp2_with fail
      (with_reducible refine (tsame_ok HT.out HY.out (by omega) (same_refl t)).mono ?_)
      rintro e w' ⟨rfl, hb⟩
      replace hB := hB.trans (hb.mono hB.size)
      replace HT := Lib.hid (HT.out.below hb)
      replace HX := Lib.hid (HX.out.below hb)
      replace HY := Lib.hid (HY.out.below hb)
      go_wp2_with fail
      go_ret
      exact ⟨rfl, hB⟩
end Go.Proofs.Ytkhjpmefekonhaa.Pt
