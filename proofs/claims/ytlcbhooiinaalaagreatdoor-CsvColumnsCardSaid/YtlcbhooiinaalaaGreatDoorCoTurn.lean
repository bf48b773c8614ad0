/- Without and Drop of the reference. Conditions: fewer edges than 2^38. · Trees that few edges were put into, taken out of: how many edges; paths of texts in memory; the texts that csv's Turn takes. No conditions. · csv's Turn: a tree with some steps taken. Conditions: few edges. -/
import Derived.Test.YtlcbhooiinaalaaGreatDoorMwCwRPut
import Derived.Outline
import Derived.Test.YtlcbhooiinaalaaGreatDoorRcFile
import Derived.Test.YtlcbhooiinaalaaGreatDoorRcRowsW
import Derived.Test.YtlcbhooiinaalaaGreatDoorMwChkP
namespace Go.Proofs.YtlcbhooiinaalaaGreatDoor.Pt
open Go.RowKit Go.Proofs.YtlcbhooiinaalaaGreatDoor.Jd Go.Proofs.YtlcbhooiinaalaaGreatDoor.Cl
set_option maxRecDepth 100000

theorem withoutT_not : ∀ {t : Tr} {name : ByteArray}, t.atIs name = false → withoutT t name = t
  | .nil, _, _ => rfl
  | .cons s k r, name, h => by
    rcases cases3 s name with c1 | ⟨c1, c2⟩ | ⟨c1, c2, _⟩
    · rw [withoutT_lt c1, withoutT_not (by rw [← h, Pt.atIs_lt c1])]
    · rw [atIs_ge c1, c2] at h; cases h
    · exact withoutT_gt c1 c2
theorem RowT_without {w : World} {B : Nat} {name : ByteArray} : ∀ {vs : List Value} {t : Tr}, RowT w B vs t → t.atIs name = true →
    RowT w B (vs.take (t.atN name * 2) ++ vs.drop ((t.atN name + 1) * 2)) (withoutT t name)
  | [], .nil, _, h => by simp [Tr.atIs, Tr.atN, dropT_zero, Tr.headIs] at h
  | .string s :: .slice A n c :: vs, .cons _ k r, ⟨h1, h2, h3, h4, h5⟩, h => by
    subst h1
    rcases cases3 s name with c1 | ⟨c1, c2⟩ | ⟨c1, c2, _⟩
    · rw [Pt.atIs_lt c1] at h
      have ih := RowT_without h5 h
      rw [withoutT_lt c1, atN_lt c1, show (r.atN name + 1) * 2 = r.atN name * 2 + 1 + 1 by omega, show (r.atN name + 1 + 1) * 2 = (r.atN name + 1) * 2 + 1 + 1 by omega]
      exact ⟨rfl, h2, h3, h4, ih⟩
    · rw [withoutT_eq c1 c2, atN_ge c1]
      simpa using h5
    · rw [atIs_ge c1, c2] at h; cases h

set_option maxHeartbeats 2000000 in
theorem rwithout_any (t : Tr) (A : Option Addr) (n c : Nat) (name : ByteArray) (w : World) (h : OkT w A n c t) (hn : n ≤ 549755813888) :
    Calls Tryz.prog 47 #[.slice A n c, .string name] w (OkP w (withoutT t name)) := by
  have Hn := Lib.hid h.holds.len
  have Hat := Lib.hid (at_any t A n c w.heap.size name w h.holds (Nat.le_refl _) (by omega))
  have hc := h.cap.1
  by_cases hi : t.atIs name = true
  · have hlt : t.atN name < t.len := by
      rcases Nat.lt_or_ge (t.atN name) t.len with g | g
      · exact g
      · unfold Tr.atIs at hi
        rw [drop_len t _ g] at hi
        cases hi
    rw [← Hn.out] at hlt
    obtain ⟨vs, hr, hcell, hpos⟩ := h.holds.rowT
    obtain ⟨b, o, rfl, hbB⟩ := hpos (by omega)
    have hrow := RowT_without hr hi
    rw [hi] at Hat
    obtain ⟨k, hk⟩ : ∃ k, k = t.atN name := ⟨_, rfl⟩
    rw [← hk] at hlt Hat hrow
    have hvl := hr.length
    rw [← Hn.out] at hvl
    have hcl := hcell b o rfl
    have hone := hr.one
    have h1 : ∀ W : World, Below w.heap.size w W → Src Tryz.prog 2 30 (.slice (some ⟨b, o, none⟩) k c) k (vs.take (k * 2)) W := fun W hW => src_edges (by rw [List.length_take]; omega) (fun j u hu => by
      rw [List.getElem?_take] at hu
      split at hu
      · exact (hW.cell (p := ⟨b, o + j, none⟩) (by simp only; omega)).trans (hcl j u hu)
      · cases hu) (fun u hu => hone u (List.mem_of_mem_take hu))
    have H1 := Lib.hid h1
    have h3 : ∀ W : World, Below w.heap.size w W → Src Tryz.prog 2 30 (.slice (if c = k + 1 then some ⟨b, o, none⟩ else some ⟨b, o + (k + 1) * 2, none⟩) (n - (k + 1)) (c - (k + 1))) (n - (k + 1)) (vs.drop ((k + 1) * 2)) W := by
      intro W hW
      by_cases e : c = k + 1
      · have e0 : n - (k + 1) = 0 := by omega
        rw [e0, List.drop_of_length_le (by omega)]
        exact src_none _ _ _
      · rw [if_neg e]
        exact src_edges (by rw [List.length_drop]; omega) (fun j u hu => by
          rw [List.getElem?_drop] at hu
          rw [show o + (k + 1) * 2 + j = o + ((k + 1) * 2 + j) by omega]
          exact (hW.cell (p := ⟨b, o + ((k + 1) * 2 + j), none⟩) (by simp only; omega)).trans (hcl _ u hu)) (fun u hu => hone u (List.mem_of_mem_drop hu))
    have H3 := Lib.hid h3
    have hkn : (k : Int) ≤ (n : Int) := by omega
    have hcn : (n : Int) ≤ (c : Int) := by omega
    have hkc : (k : Int) ≤ (c : Int) := by omega
    have hk0 : (0 : Int) ≤ (k : Int) := by omega
    have hkn1 : (k : Int) + 1 ≤ (n : Int) := by omega
    have Hrow := Lib.hid hrow
    clear h3 h1 hcl hcell hvl hone hk hr hrow hpos hi
    go_enter Tryz.func47, Tryz.ntmps47
    go_wp2_with fail
    refine Hat.out.mono ?_
    rintro e w1' ⟨rfl, q, rfl⟩
    go_wp2_with (first
      | (at_builtin; refine wpList_append_row rfl (.tmp 17) (.tmp 20) _ _ rfl elem_edge rfl rfl (World.ownsRow_nil _ w.heap.size _ _) (H1.out _ (below_drewN (Below.refl _ w) q)) (by omega) (Nat.le_refl _) ?_; intro A1 c1 w1 ho1 hg1 hat1; simp only [Nat.zero_add, List.nil_append] at ho1; have hb1 : Below w.heap.size w w1 := (below_drewN (Below.refl _ w) q).grown hg1 (Nat.le_refl _) (by simp [Value.ownBlock]); have hz1 := hb1.size; have hs3 := H3.out w1 hb1)
      | (at_builtin; refine wpList_append_row rfl (.tmp 22) (.tmp 26) _ _ rfl elem_edge rfl rfl ho1 hs3 (by omega) hz1 ?_; intro A3 c3 w3 ho3 hg3 hat3))
    all_goals
      go_ret
      have hb3 : Below w.heap.size w w3 := hb1.grown hg3 hz1 (fun k hk => (ho1.lt k hk).1)
      refine ⟨A3, _, c3, rfl, ⟨own_holds ho3 ?_, (own_cap ho3).1, (own_cap ho3).2⟩, hb3⟩
      exact (Hrow.out.keep (w' := w3) (fun p hp => hb3.cell hp)).more hb3.size
  · have hi2 : t.atIs name = false := by simpa using hi
    rw [hi2] at Hat
    rw [withoutT_not hi2]
    obtain ⟨k, hk⟩ : ∃ k, k = t.atN name := ⟨_, rfl⟩
    rw [← hk] at Hat
    have HO := Lib.hid h
    clear hi hi2 hk h
    go_enter Tryz.func47, Tryz.ntmps47
    go_wp2_with fail
    refine Hat.out.mono ?_
    rintro e w1' ⟨rfl, q, rfl⟩
    go_wp2_with fail
    go_ret
    exact ⟨A, n, c, rfl, HO.out.below (below_drewN (Below.refl _ w) q), below_drewN (Below.refl _ w) q⟩
set_option maxHeartbeats 2000000 in
theorem rdrop_any : ∀ (ps : List ByteArray) (t : Tr) (A Ap : Option Addr) (n c np cp : Nat) (w : World), OkT w A n c t → SeesV w w.heap.size Ap np (ps.map Value.string) → np ≤ cp → ps.length ≤ 1000000 → t.size ≤ 274877906944 →
    Calls Tryz.prog 24 #[.slice A n c, .slice Ap np cp] w (OkP w (dropP t ps))
  | [], t, A, Ap, n, c, np, cp, w, ht, hp, hcp, hps, hz => by
    obtain rfl : np = 0 := by have := hp.len; simpa using this
    rw [show dropP t [] = .nil by cases t <;> rfl]
    clear ht hp hz
    go_enter Tryz.func24, Tryz.ntmps24
    go_wp2_with fail
    go_ret
    exact ⟨none, 0, 0, rfl, ⟨rfl, Nat.le_refl _, Nat.zero_le _⟩, Below.refl _ _⟩
  | p :: ps, t, A, Ap, n, c, np, cp, w, ht, hp, hcp, hps, hz => by
    obtain ⟨m, rfl⟩ : ∃ m, np = m + 1 := by have := hp.len; simp only [List.length_map, List.length_cons] at this; exact ⟨_, this⟩
    have hml : m = ps.length := by have := hp.len; simp only [List.length_map, List.length_cons] at this; omega
    have hmb : m ≤ 1000000 := by simp only [List.length_cons] at hps; omega
    obtain ⟨b, o, rfl, hb, hc0⟩ := hp.str (j := 0) (by omega)
    have hc1 : w.cell? ⟨b, o, none⟩ = some (.string p) := by simpa using hc0
    have hpt := sees_behind (vs := ps.map Value.string) hp hcp
    have hl := ht.holds.len
    have hls := t.len_size
    have HK := Lib.hid (kid2_any t A n c w.heap.size p w ht.holds (Nat.le_refl _) (by omega))
    have HT := Lib.hid ht
    have hn5 : n ≤ 549755813888 := by omega
    have hcap := ht.cap.1
    have hm0 : ((m : Int) + 1 == 0) = false := by simp; omega
    have hm2 : ¬ (m : Int) + 1 = 0 := by omega
    have hm3 : (0 : Int) < (m : Int) + 1 := by omega
    by_cases hi : t.atIs p = true
    case neg =>
      have hi2 : t.atIs p = false := by simpa using hi
      have e : dropP t (p :: ps) = t := by cases ps <;> simp [dropP, hi2]
      rw [e]
      rw [hi2] at HK
      clear hc0 hp hpt hl hls hz e hi hi2 ht
      go_enter Tryz.func24, Tryz.ntmps24
      go_wp2_with fail
      (with_reducible refine HK.out.mono ?_)
      rintro e w1 ⟨A', n', c', rfl, hk', hn', hc', q, hw1⟩
      have HB1 : Hid (Below w.heap.size w w1) := Lib.hid (by rw [hw1]; exact below_drewN (Below.refl _ _) q)
      clear hk' hw1
      go_wp2_with fail
      go_ret
      exact ⟨A, n, c, rfl, HT.out.below HB1.out, HB1.out⟩
    rw [hi] at HK
    cases ps with
    | nil =>
      obtain rfl : m = 0 := by simpa using hml
      have e : dropP t [p] = withoutT t p := by simp [dropP, hi]
      rw [e]
      have HC := Lib.hid (fun (W : World) (hW : Below w.heap.size w W) => rwithout_any t A n c p W (ht.below hW) hn5)
      simp only [Nat.zero_add]
      clear hc0 hp hpt hl hls hz e hi ht hm0 hm2 hm3 hml hmb
      go_enter Tryz.func24, Tryz.ntmps24
      go_wp2_with fail
      (with_reducible refine HK.out.mono ?_)
      rintro e w1 ⟨A', n', c', rfl, hk', hn', hc', q, hw1⟩
      have hb1 : Below w.heap.size w w1 := by rw [hw1]; exact below_drewN (Below.refl _ _) q
      have hc1' := (hb1.cell (p := ⟨b, o, none⟩) hb).trans hc1
      clear hk' hw1
      go_wp2_with fail
      (with_reducible refine (HC.out w1 hb1).mono ?_)
      rintro e w2 ⟨A2, n2, c2, rfl, o2, hb2⟩
      have H2 := Lib.hid o2
      have HB2 := Lib.hid hb2
      clear o2 hb2
      go_wp2_with fail
      go_ret
      exact ⟨A2, n2, c2, rfl, H2.out, hb1.trans (HB2.out.mono hb1.size)⟩
    | cons p2 ps =>
      obtain ⟨m2, rfl⟩ : ∃ m2, m = m2 + 1 := ⟨ps.length, by simpa using hml⟩
      have e : dropP t (p :: p2 :: ps) = t.withT p (dropP (kidT t p) (p2 :: ps)) := by simp [dropP, hi]
      rw [e]
      have HC := Lib.hid (fun (W : World) (hW : Below w.heap.size w W) (A' : Option Addr) (n' c' : Nat) (hk : OkT W A' n' c' (kidT t p)) => rdrop_any (p2 :: ps) (kidT t p) A' _ n' c' (m2 + 1) (cp - 1) W hk (sees_up (hpt.below hW) hW.size) (by omega) (by simp only [List.length_cons] at hps ⊢; omega) (Nat.le_trans (kidT_size t p) hz))
      obtain ⟨y, hy⟩ : ∃ y, y = dropP (kidT t p) (p2 :: ps) := ⟨_, rfl⟩
      rw [← hy] at HC ⊢
      rw [if_neg (by omega)] at HC
      have hone : ¬ cp = 1 := by omega
      have hone' : ¬ (cp : Int) = 1 := by omega
      have hq1 : (1 : Int) ≤ ((m2 + 1 : Nat) : Int) + 1 := by omega
      have hcp1 : ((m2 + 1 : Nat) : Int) + 1 ≤ (cp : Int) := by omega
      have hcp2 : (1 : Int) ≤ (cp : Int) := by omega
      obtain ⟨m, hm⟩ : ∃ m, m = m2 + 1 := ⟨_, rfl⟩
      have hmp : 1 ≤ m := by omega
      rw [← hm] at hq1 hcp1 HC hm0 hm2 hm3 hmb ⊢
      have hne1 : ((m : Int) + 1 == 1) = false := by simp; omega
      have hne1' : ¬ (m : Int) + 1 = 1 := by omega
      have hne2 : ¬ (m : Int) = 0 := by omega
      have hne2' : ¬ m = 0 := by omega
      clear hc0 hp hpt hl hls hz e hi ht hy hm hml hps
      go_enter Tryz.func24, Tryz.ntmps24
      go_wp2_with fail
      (with_reducible refine HK.out.mono ?_)
      rintro e w1 ⟨A', n', c', rfl, hk', hn', hc', q, hw1⟩
      have hb1 : Below w.heap.size w w1 := by rw [hw1]; exact below_drewN (Below.refl _ _) q
      have hc1' := (hb1.cell (p := ⟨b, o, none⟩) hb).trans hc1
      have hbd : Below w.heap.size w w1.drew := hb1.drew
      have HOk := Lib.hid (show OkT w1.drew A' n' c' (kidT t p) from ⟨(hk'.below hbd).more hbd.size, hn', hc'⟩)
      have hbl : b < w1.heap.size := Nat.lt_of_lt_of_le hb hb1.size
      clear hk' hw1
      go_wp2_with fail
      go_region_held3 (fun w' => w'.cell? ⟨b, o, none⟩ = some (.string p)) (first | exact hc1' | exact hs3 | exact hs4)
        (first
        | (go_at_call 24; refine (HC.out _ hbd A' n' c' HOk.out).mono ?_; rintro e w3 ⟨A3, n3, c3, rfl, ox, hb3⟩; have hs3 := (hb3.cell (p := ⟨b, o, none⟩) hbl).trans hc1'; have hb03 := hbd.trans (hb3.mono hbd.size); have hA3 := (HT.out.below hb03).holds)
        | (go_at_call 35; refine (with_any t y A A3 n c n3 c3 w3.heap.size p w3 hA3 ox.holds (Nat.le_refl _) hn5 hcap ox.cap.1 ox.cap.2).mono ?_; rintro e w4 ⟨A4, n5, c4, rfl, hx4, hn5', hm4, hb4⟩; have hs4 := (hb4.cell (p := ⟨b, o, none⟩) (Nat.lt_of_lt_of_le hbl hb3.size)).trans hs3))
      all_goals
        go_wp2_with fail
        go_ret
        exact ⟨A4, n5, c4, rfl, ⟨hx4, hn5', hm4⟩, hb03.trans (hb4.mono hb03.size)⟩
end Go.Proofs.YtlcbhooiinaalaaGreatDoor.Pt
namespace Go.Proofs.YtlcbhooiinaalaaGreatDoor.Cv
open Go.RowKit Go.Proofs.YtlcbhooiinaalaaGreatDoor.Jd Go.Proofs.YtlcbhooiinaalaaGreatDoor.Li Go.Proofs.YtlcbhooiinaalaaGreatDoor.Pt Go.Proofs.YtlcbhooiinaalaaGreatDoor.Cl
set_option maxRecDepth 100000

theorem with_size2 {name : ByteArray} {x : Tr} : ∀ {t : Tr}, (t.withT name x).size + (kidT t name).size ≤ t.size + x.size + 1
  | .nil => by simp [Tr.withT, Tr.size, kidT]
  | .cons s k r => by
    have := with_size2 (name := name) (x := x) (t := r)
    rcases cases3 s name with c1 | ⟨c1, c2⟩ | ⟨c1, c2, _⟩
    · rw [withT_lt c1, kidT_lt c1]; simp only [Tr.size]; omega
    · rw [withT_eq c1 c2, kidT_eq c1 c2]; simp only [Tr.size]; omega
    · rw [withT_gt c1 c2, kidT_gt c1 c2]; simp only [Tr.size]; omega
theorem with_nm2 {s : ByteArray} {x : Tr} (hs : s.size ≤ 140737488351232) (hx : Tr.Nm x) : ∀ {t : Tr}, Tr.Nm t → Tr.Nm (t.withT s x)
  | .nil, _ => ⟨hs, hx, trivial⟩
  | .cons s0 k r, ⟨h1, h2, h3⟩ => by
    unfold Tr.withT
    split
    · exact ⟨h1, h2, with_nm2 hs hx h3⟩
    · split
      · exact ⟨hs, hx, h3⟩
      · exact ⟨hs, hx, h1, h2, h3⟩
theorem kid_nm2 {q : ByteArray} : ∀ {t : Tr}, Tr.Nm t → Tr.Nm (kidT t q)
  | .nil, _ => trivial
  | .cons s k r, ⟨_, h2, h3⟩ => by
    rcases cases3 s q with c1 | ⟨c1, c2⟩ | ⟨c1, c2, _⟩
    · rw [kidT_lt c1]; exact kid_nm2 h3
    · rw [kidT_eq c1 c2]; exact h2
    · rw [kidT_gt c1 c2]; trivial
theorem without_nm2 {q : ByteArray} : ∀ {t : Tr}, Tr.Nm t → Tr.Nm (withoutT t q)
  | .nil, _ => trivial
  | .cons s k r, ⟨h1, h2, h3⟩ => by
    rcases cases3 s q with c1 | ⟨c1, c2⟩ | ⟨c1, c2, _⟩
    · rw [withoutT_lt c1]; exact ⟨h1, h2, without_nm2 h3⟩
    · rw [withoutT_eq c1 c2]; exact h3
    · rw [withoutT_gt c1 c2]; exact ⟨h1, h2, h3⟩
theorem without_size2 {name : ByteArray} : ∀ {t : Tr}, (withoutT t name).size ≤ t.size
  | .nil => Nat.le_refl _
  | .cons s k r => by
    have := without_size2 (name := name) (t := r)
    rcases cases3 s name with c1 | ⟨c1, c2⟩ | ⟨c1, c2, _⟩
    · rw [withoutT_lt c1]; simp only [Tr.size]; omega
    · rw [withoutT_eq c1 c2]; simp only [Tr.size]; omega
    · rw [withoutT_gt c1 c2]; exact Nat.le_refl _
/-- So many edges at most; names of a size. -/
def Tn (K : Nat) (t : Tr) : Prop := t.size ≤ K ∧ Tr.Nm t
def Sz (s : ByteArray) : Prop := s.size ≤ 140737488351232
theorem tn_put1 {K : Nat} {t : Tr} {q : ByteArray} (h : Tn K t) (hq : Sz q) : Tn (K + 3) (putT t [q] .nil) := by
  have h1 := with_size2 (name := q) (x := .nil) (t := t)
  have e : putT t [q] .nil = t.withT q .nil := rfl
  rw [e]
  exact ⟨by simp only [Tr.size] at h1; have := h.1; omega, with_nm2 (x := .nil) hq trivial h.2⟩
theorem tn_put2 {K : Nat} {t : Tr} {q c v : ByteArray} (h : Tn K t) (hq : Sz q) (hc : Sz c) (hv : Sz v) : Tn (K + 3) (putT t [q, c] (.cons v .nil .nil)) := by
  have e : putT t [q, c] (.cons v .nil .nil) = t.withT q ((kidT t q).withT c (.cons v .nil .nil)) := rfl
  rw [e]
  have h1 := with_size2 (name := q) (x := (kidT t q).withT c (.cons v .nil .nil)) (t := t)
  have h2 := with_size2 (name := c) (x := .cons v .nil .nil) (t := kidT t q)
  have h3 := h.1
  simp only [Tr.size] at h2
  exact ⟨by omega, with_nm2 hq (with_nm2 (x := .cons v .nil .nil) hc ⟨hv, trivial, trivial⟩ (kid_nm2 h.2)) h.2⟩
theorem tn_mono {K K' : Nat} {t : Tr} (h : Tn K t) (hk : K ≤ K') : Tn K' t := ⟨Nat.le_trans h.1 hk, h.2⟩
theorem tn_drop1 {K : Nat} {t : Tr} {q : ByteArray} (h : Tn K t) : Tn (K + 3) (dropP t [q]) := by
  unfold dropP
  split
  · exact ⟨by have := without_size2 (name := q) (t := t); have := h.1; omega, without_nm2 h.2⟩
  · exact tn_mono h (by omega)
theorem tn_drop2 {K : Nat} {t : Tr} {q c : ByteArray} (h : Tn K t) (hq : Sz q) : Tn (K + 3) (dropP t [q, c]) := by
  unfold dropP
  split
  · have h1 := with_size2 (name := q) (x := dropP (kidT t q) [c]) (t := t)
    have h2 : (dropP (kidT t q) [c]).size ≤ (kidT t q).size ∧ Tr.Nm (dropP (kidT t q) [c]) := by
      unfold dropP
      split
      · exact ⟨without_size2, without_nm2 (kid_nm2 h.2)⟩
      · exact ⟨Nat.le_refl _, kid_nm2 h.2⟩
    exact ⟨by have := h.1; omega, with_nm2 hq h2.2 h.2⟩
  · exact tn_mono h (by omega)
/-- A path in memory. -/
theorem path1 {V : World} {g : Nat} {q : ByteArray} {e : TypeId} {r : Nat × Nat} (h : V.heap[g]? = some (.cells #[.string q] e r)) : SeesV V V.heap.size (some ⟨g, 0, none⟩) 1 ([q].map Value.string) := by
  refine ⟨rfl, fun j u hu => ⟨g, 0, rfl, (Array.getElem?_eq_some_iff.1 h).1, ?_⟩⟩
  cases j with
  | zero => simp only [List.map_cons, List.getElem?_cons_zero, Option.some.injEq] at hu; subst hu; rw [cell_of_row _ _ _ _ _ _ h]; rfl
  | succ j => simp at hu
theorem path2 {V : World} {g : Nat} {q c : ByteArray} {e : TypeId} {r : Nat × Nat} (h : V.heap[g]? = some (.cells #[.string q, .string c] e r)) : SeesV V V.heap.size (some ⟨g, 0, none⟩) 2 ([q, c].map Value.string) := by
  refine ⟨rfl, fun j u hu => ⟨g, 0, rfl, (Array.getElem?_eq_some_iff.1 h).1, ?_⟩⟩
  match j with
  | 0 => simp only [List.map_cons, List.getElem?_cons_zero, Option.some.injEq] at hu; subst hu; rw [cell_of_row _ _ _ _ _ _ h]; rfl
  | 1 => simp only [List.map_cons, List.getElem?_cons_succ, List.getElem?_cons_zero, Option.some.injEq] at hu; subst hu; rw [cell_of_row _ _ _ _ _ _ h]; rfl
  | j + 2 => simp at hu
/-- The reference's Value. -/
theorem rvalueT_any (x : ByteArray) (w : World) : Calls Tryz.prog 33 #[.string x] w (OkP w (.cons x .nil .nil)) :=
  (rvalue3_any x w).mono fun e w' ⟨he, h1, h2, h3⟩ => ⟨some ⟨w.heap.size, 0, none⟩, 1, 1, he, ⟨h1.to (fun b hb => by subst hb; exact h3), Nat.le_refl _, by simp [maxLen]⟩, h2⟩
theorem tdiv_lim {x : Int} (d : Int) (hd : 2 ≤ d) (h : -9223372036854775808 ≤ x ∧ x ≤ 9223372036854775807) : -9223372036854775808 ≤ x.tdiv d ∧ x.tdiv d ≤ 9223372036854775807 ∧ wrap64 (x.tdiv d) = x.tdiv d ∧ IntKind.i64.wrap (x.tdiv d) = x.tdiv d := by
  have h2 : -9223372036854775808 ≤ x.tdiv d ∧ x.tdiv d ≤ 9223372036854775807 := by
    rcases Int.le_total 0 x with h0 | h0
    · rw [Int.tdiv_eq_ediv_of_nonneg h0]
      have h1 := Int.ediv_le_self d h0
      have h2 := Int.ediv_nonneg h0 (show 0 ≤ d by omega)
      omega
    · have e : x.tdiv d = -((-x).tdiv d) := by rw [Int.neg_tdiv, Int.neg_neg]
      rw [e, Int.tdiv_eq_ediv_of_nonneg (by omega)]
      have h1 := Int.ediv_le_self d (show 0 ≤ -x by omega)
      have h2 := Int.ediv_nonneg (show 0 ≤ -x by omega) (show 0 ≤ d by omega)
      omega
  exact ⟨h2.1, h2.2, by unfold wrap64; omega, IntWalk.i64_in _ (by omega)⟩
theorem tab5 (V : World) (g : Nat) (e : TypeId) (hg : V.heap[g]? = some (.cells #[.string ⟨#[97]⟩, .string ⟨#[98, 44, 99]⟩, .string ⟨#[100, 32, 101]⟩, .string ⟨#[102]⟩, .string ⟨#[34, 103, 34]⟩] e (0, 0))) (j : Nat) (y : ByteArray) (hy : (#[Value.string ⟨#[97]⟩, .string ⟨#[98, 44, 99]⟩, .string ⟨#[100, 32, 101]⟩, .string ⟨#[102]⟩, .string ⟨#[34, 103, 34]⟩] : Array Value)[j]? = some (.string y)) : V.cell? ⟨g, j, none⟩ = some (.string y) := by
  rw [cell_of_row _ _ j _ _ _ hg]; exact hy
theorem tab5y (j : Nat) (hj : j < 5) : ∃ y : ByteArray, y.size ≤ 5 ∧ (#[Value.string ⟨#[97]⟩, .string ⟨#[98, 44, 99]⟩, .string ⟨#[100, 32, 101]⟩, .string ⟨#[102]⟩, .string ⟨#[34, 103, 34]⟩] : Array Value)[j]? = some (.string y) := by
  match j, hj with
  | 0, _ => exact ⟨_, by decide, rfl⟩
  | 1, _ => exact ⟨_, by decide, rfl⟩
  | 2, _ => exact ⟨_, by decide, rfl⟩
  | 3, _ => exact ⟨_, by decide, rfl⟩
  | 4, _ => exact ⟨_, by decide, rfl⟩
/-- The text of one byte. -/
theorem conv_at48 (i : Nat) (hi : i ≤ 25) (V : World) (g : Nat) (hg : V.heap[g]? = some (Obj.cells #[Value.int .u8 (48 + (i : Int))] 5 (0, 0))) : (convert 26 9 (.slice (some ⟨g, 0, none⟩) 1 1)).run Tryz.prog V = .ok (.string ⟨#[UInt8.ofNat (48 + i)]⟩) V := by
  have hb : byt (UInt8.ofNat (48 + i)) = Value.int .u8 (48 + (i : Int)) := by
    simp only [byt, UInt8.toNat_ofNat']
    congr 1
    omega
  have hs : Sees V (g + 1) (some ⟨g, 0, none⟩) 1 [UInt8.ofNat (48 + i)] := by
    refine ⟨rfl, fun q u hu => ⟨_, rfl, Nat.lt_succ_self _, ?_⟩⟩
    cases q with
    | zero =>
      simp only [List.getElem?_cons_zero, Option.some.injEq] at hu
      subst hu
      rw [Addr.add_lit, cell_of_row _ _ _ _ _ _ hg, hb]
      rfl
    | succ q => simp at hu
  exact run_text _ _ _ Tryz.underlying26 Tryz.underlying5 Tryz.underlying9 hs
theorem u8_small48 (k : Nat) (hk : k ≤ 25) : IntKind.u8.wrap (48 + (k : Int)) = 48 + (k : Int) := by rw [IntKind.wrap_u8]; omega
theorem tab4c (V : World) (g : Nat) (e : TypeId) (hg : V.heap[g]? = some (.cells #[.string ⟨#[107, 101, 121]⟩, .string ⟨#[]⟩, .string ⟨#[97, 10, 98]⟩, .string ⟨#[97, 13]⟩] e (0, 0))) (j : Nat) (y : ByteArray) (hy : (#[Value.string ⟨#[107, 101, 121]⟩, .string ⟨#[]⟩, .string ⟨#[97, 10, 98]⟩, .string ⟨#[97, 13]⟩] : Array Value)[j]? = some (.string y)) : V.cell? ⟨g, j, none⟩ = some (.string y) := by
  rw [cell_of_row _ _ j _ _ _ hg]; exact hy
theorem tab4cy (j : Nat) (hj : j < 4) : ∃ y : ByteArray, y.size ≤ 5 ∧ (#[Value.string ⟨#[107, 101, 121]⟩, .string ⟨#[]⟩, .string ⟨#[97, 10, 98]⟩, .string ⟨#[97, 13]⟩] : Array Value)[j]? = some (.string y) := by
  match j, hj with
  | 0, _ => exact ⟨_, by decide, rfl⟩
  | 1, _ => exact ⟨_, by decide, rfl⟩
  | 2, _ => exact ⟨_, by decide, rfl⟩
  | 3, _ => exact ⟨_, by decide, rfl⟩
/-- Drop and Put, of paths that were made ahead of it. -/
theorem drop_w {u : Tr} {A' : Option Addr} {n' c' : Nat} {wa : World} (hT : OkT wa A' n' c' u) (hz : u.size ≤ 430) (q y : ByteArray) :
    (Calls Tryz.prog 24 #[.slice A' n' c', .slice (some ⟨wa.heap.size, 0, none⟩) 1 1] (wa.alloc (Obj.cells #[Value.string q] 9)) (OkP (wa.alloc (Obj.cells #[Value.string q] 9)) (dropP u [q]))) ∧
    (Calls Tryz.prog 24 #[.slice A' n' c', .slice (some ⟨wa.heap.size, 0, none⟩) 2 2] (wa.alloc (Obj.cells #[Value.string q, Value.string y] 9)) (OkP (wa.alloc (Obj.cells #[Value.string q, Value.string y] 9)) (dropP u [q, y]))) :=
  ⟨rdrop_any [q] u A' _ n' c' 1 1 _ (hT.below ((Below.refl _ _).alloc (Nat.le_refl _) _)) (path1 (heap_alloc_new wa _)) (Nat.le_refl _) (by simp) (by omega),
   rdrop_any [q, y] u A' _ n' c' 2 2 _ (hT.below ((Below.refl _ _).alloc (Nat.le_refl _) _)) (path2 (heap_alloc_new wa _)) (Nat.le_refl _) (by simp) (by omega)⟩
theorem put1_w {u : Tr} {A' : Option Addr} {n' c' : Nat} {wa : World} (hT : OkT wa A' n' c' u) (hz : u.size ≤ 430) (q : ByteArray) :
    Calls Tryz.prog 25 #[.slice A' n' c', .slice (some ⟨wa.heap.size, 0, none⟩) 1 1, .slice none 0 0] (wa.alloc (Obj.cells #[Value.string q] 9)) (OkP (wa.alloc (Obj.cells #[Value.string q] 9)) (putT u [q] .nil)) :=
  rput_any [q] u A' _ none n' c' 1 1 0 0 _ (hT.below ((Below.refl _ _).alloc (Nat.le_refl _) _)) ⟨rfl, Nat.le_refl _, Nat.zero_le _⟩ (path1 (heap_alloc_new wa _)) (Nat.le_refl _) (by omega)
theorem put2_w {u : Tr} {A' Av : Option Addr} {n' c' nv cv g : Nat} {q y v : ByteArray} {W : World} {e : TypeId} {r : Nat × Nat} (hT : OkT W A' n' c' u) (hz : u.size ≤ 430) (hg : W.heap[g]? = some (.cells #[.string q, .string y] e r)) (hv : OkT W Av nv cv (.cons v .nil .nil)) :
    Calls Tryz.prog 25 #[.slice A' n' c', .slice (some ⟨g, 0, none⟩) 2 2, .slice Av nv cv] W (OkP W (putT u [q, y] (.cons v .nil .nil))) :=
  rput_any [q, y] u A' _ Av n' c' 2 2 nv cv W hT hv (path2 hg) (Nat.le_refl _) (by omega)
theorem rvalueX_any (x : ByteArray) (w : World) : Calls Tryz.prog 33 #[.string x] w fun e w' => e = .returned (.slice (some ⟨w.heap.size, 0, none⟩) 1 1) ∧ w' = w.alloc (Obj.cells #[Value.string x, Value.slice none 0 0] 55) := by
  go_enter Tryz.func33, Tryz.ntmps33
  go_wp2_with fail
  go_ret
  exact ⟨rfl, rfl⟩
theorem val_ok {W : World} {b : Nat} {x : ByteArray} {e : TypeId} {r : Nat × Nat} (h : W.heap[b]? = some (.cells #[.string x, .slice none 0 0] e r)) : OkT W (some ⟨b, 0, none⟩) 1 1 (.cons x .nil .nil) := by
  have hc := fun i => cell_of_row _ _ i _ _ _ h
  exact ⟨⟨b, 0, rfl, (Array.getElem?_eq_some_iff.1 h).1, hc 0, ⟨none, 0, 0, hc 1, Nat.le_refl _, Nat.zero_le _, rfl⟩, 0, rfl, rfl⟩, Nat.le_refl _, by simp [maxLen]⟩
theorem three_low (w : World) (a b c : Obj) : (((w.alloc a).alloc b).alloc c).heap[w.heap.size]? = some a := by
  rw [heap_alloc_old ((w.alloc a).alloc b) c (Array.getElem?_eq_some_iff.1 (two_low w a b)).1]
  exact two_low w a b
theorem three_mid (w : World) (a b c : Obj) : (((w.alloc a).alloc b).alloc c).heap[w.heap.size + 1]? = some b := by
  rw [heap_alloc_old ((w.alloc a).alloc b) c (Array.getElem?_eq_some_iff.1 (two_high w a b)).1]
  exact two_high w a b
theorem three_high (w : World) (a b c : Obj) : (((w.alloc a).alloc b).alloc c).heap[w.heap.size + 1 + 1]? = some c := by
  have h := two_high (w.alloc a) b c
  rwa [show (w.alloc a).heap.size = w.heap.size + 1 by simp] at h
theorem below3 (w : World) (a b c : Obj) : Below w.heap.size w (((w.alloc a).alloc b).alloc c).drew :=
  ((((Below.refl _ _).alloc (Nat.le_refl _) _).alloc (by simp) _).alloc (by simp; omega) _).drew
/-- The two texts of a step. -/
def C7 (w : World) (r c : Value) (wx : World) : Prop := ∃ q y : ByteArray, r = .string q ∧ c = .string y ∧ Sz q ∧ Sz y ∧ Below w.heap.size w wx
end Go.Proofs.YtlcbhooiinaalaaGreatDoor.Cv
namespace Go.Proofs.YtlcbhooiinaalaaGreatDoor.Cv
open Go.RowKit Go.Proofs.YtlcbhooiinaalaaGreatDoor.Jd Go.Proofs.YtlcbhooiinaalaaGreatDoor.Li Go.Proofs.YtlcbhooiinaalaaGreatDoor.Pt Go.Proofs.YtlcbhooiinaalaaGreatDoor.Cl
set_option maxRecDepth 100000

/-- Some tree of so many edges at most. -/
def TurnP (w : World) (e : Ending) (w' : World) : Prop := ∃ (u : Tr) (A' : Option Addr) (n' c' : Nat), e = .returned (.slice A' n' c') ∧ OkT w' A' n' c' u ∧ Tn 430 u ∧ Below w.heap.size w w'
set_option maxHeartbeats 8000000 in
theorem turn_any (t0 : Tr) (A A2 : Option Addr) (n c n2 c2 : Nat) (l : List Int) (w : World) (h : OkT w A n c t0) (ht : Tn 400 t0) (h2 : SeesV w w.heap.size A2 n2 (l.map (Value.int .i64))) (hr : ∀ x ∈ l, -9223372036854775808 ≤ x ∧ x ≤ 9223372036854775807) :
    Calls Tryz.prog 16 #[.slice A n c, .slice A2 n2 c2] w (TurnP w) := by
  have HH := Lib.hid h2
  have Hr : Hid (∀ k, k < n2 → -9223372036854775808 ≤ l.getD k 0 ∧ l.getD k 0 ≤ 9223372036854775807) := Lib.hid (fun k hk => by
    have hkl : k < l.length := by have := h2.len; rw [List.length_map] at this; omega
    rw [List.getD_eq_getElem?_getD, List.getElem?_eq_getElem hkl]
    exact hr _ (List.getElem_mem hkl))
  have HT0 := Lib.hid h
  have HN0 := Lib.hid ht
  clear h h2 hr ht
  go_enter Tryz.func16, Tryz.ntmps16
  go_wp2_with fail
  go_loopw [0, 5] (fun tv i wr => ∃ (k : Nat) (A' : Option Addr) (n' c' : Nat) (u : Tr), k ≤ 10 ∧ i = .int .i64 k ∧ tv = .slice A' n' c' ∧ Hid (OkT wr A' n' c' u) ∧ Hid (Tn (400 + 3 * k) u) ∧ Hid (Below w.heap.size w wr)) (fun _ i _ => 10 - (intOf i).toNat)
  case atStart => exact ⟨0, A, n, c, t0, by omega, rfl, rfl, HT0, HN0, Lib.hid (Below.refl _ _)⟩
  case round =>
    obtain ⟨k, A', n', c', u, hk, rfl, rfl, HT, HN, HW⟩ := hrel
    by_cases hlt : k < n2 ∧ k < 10
    · obtain ⟨hl1, hl2⟩ := hlt
      have q1 : (k : Int) < 10 := by omega
      have q2 : (k : Int) < (n2 : Int) := by omega
      have q3 : (0 : Int) ≤ (k : Int) := by omega
      obtain ⟨b, o, rfl, hbB, hcell⟩ := (HH.out.below HW.out).int hl1
      obtain ⟨x, hx⟩ : ∃ x, x = l.getD k 0 := ⟨_, rfl⟩
      have hxr := Hr.out k hl1
      rw [← hx] at hcell hxr
      obtain ⟨a8, b8, w8, v8⟩ := tdiv_lim 8 (by omega) hxr
      obtain ⟨a3, b3, w3, v3⟩ := tdiv_lim 3 (by omega) hxr
      obtain ⟨j, hj, HJ'⟩ := within_nat (x.tdiv 8) 3 (by omega) (by omega) ⟨a8, b8⟩
      have HJ : Hid (∀ w, Calls Tryz.prog 10 #[.int .i64 (x.tdiv 8), .int .i64 3] w fun e w' => e = .returned (.int .i64 j) ∧ w = w') := Lib.hid HJ'
      obtain ⟨j5, hj5, HJ5'⟩ := within_nat (x.tdiv 3) 5 (by omega) (by omega) ⟨a3, b3⟩
      have HJ5 : Hid (∀ w, Calls Tryz.prog 10 #[.int .i64 (x.tdiv 3), .int .i64 5] w fun e w' => e = .returned (.int .i64 j5) ∧ w = w') := Lib.hid HJ5'
      have Hx := Lib.hid hxr
      have HL := Lib.hid (And.intro hl1 hl2)
      clear HJ' HJ5' hx hl1 hl2 a8 b8 a3 b3 hbB hxr
      go_upto_region 5 with (fail)
      go_cut [7, 8] from 11 to 125 (fun r c wx => C7 wr r c wx)
      case first =>
        have hwr := u8_small j (by omega)
        have hwr2 : IntKind.i64.wrap (97 + (j : Int)) = 97 + (j : Int) := IntWalk.i64_in _ (by omega)
        have hjI : (j5 : Int) < 5 := by omega
        have hj0 : (0 : Int) ≤ (j5 : Int) := by omega
        obtain ⟨y, hy5, hy⟩ := tab5y j5 hj5
        obtain ⟨T5, hT5⟩ : ∃ T, T = Obj.cells #[Value.string ⟨#[97]⟩, .string ⟨#[98, 44, 99]⟩, .string ⟨#[100, 32, 101]⟩, .string ⟨#[102]⟩, .string ⟨#[34, 103, 34]⟩] 9 := ⟨_, rfl⟩
        have y1 := tab5 (wr.alloc (Obj.cells #[Value.string ⟨#[97]⟩, .string ⟨#[98, 44, 99]⟩, .string ⟨#[100, 32, 101]⟩, .string ⟨#[102]⟩, .string ⟨#[34, 103, 34]⟩] 9)).drew wr.heap.size 9 (heap_alloc_new wr _) j5 y hy
        have y2 := tab5 ((wr.alloc (Obj.cells #[Value.string ⟨#[97]⟩, .string ⟨#[98, 44, 99]⟩, .string ⟨#[100, 32, 101]⟩, .string ⟨#[102]⟩, .string ⟨#[34, 103, 34]⟩] 9)).alloc (Obj.cells #[Value.int .u8 (97 + (j : Int))] 5)).drew wr.heap.size 9 (two_low wr _ _) j5 y hy
        have y3 := tab5 ((wr.alloc (Obj.cells #[Value.int .u8 (97 + (j : Int))] 5)).alloc (Obj.cells #[Value.string ⟨#[97]⟩, .string ⟨#[98, 44, 99]⟩, .string ⟨#[100, 32, 101]⟩, .string ⟨#[102]⟩, .string ⟨#[34, 103, 34]⟩] 9)).drew (wr.heap.size + 1) 9 (two_high wr _ _) j5 y hy
        have z1 := conv_at j (by omega) (wr.alloc (Obj.cells #[Value.int .u8 (97 + (j : Int))] 5)).drew wr.heap.size (heap_alloc_new wr _)
        have z2 := conv_at j (by omega) ((wr.alloc (Obj.cells #[Value.int .u8 (97 + (j : Int))] 5)).alloc (Obj.cells #[Value.string ⟨#[97]⟩, .string ⟨#[98, 44, 99]⟩, .string ⟨#[100, 32, 101]⟩, .string ⟨#[102]⟩, .string ⟨#[34, 103, 34]⟩] 9)).drew wr.heap.size (two_low wr _ _)
        have z3 := conv_at j (by omega) ((wr.alloc (Obj.cells #[Value.string ⟨#[97]⟩, .string ⟨#[98, 44, 99]⟩, .string ⟨#[100, 32, 101]⟩, .string ⟨#[102]⟩, .string ⟨#[34, 103, 34]⟩] 9)).alloc (Obj.cells #[Value.int .u8 (97 + (j : Int))] 5)).drew (wr.heap.size + 1) (two_high wr _ _)
        obtain ⟨v, hv⟩ : ∃ v, v = UInt8.ofNat (97 + j) := ⟨_, rfl⟩
        rw [← hv] at z1 z2 z3
        have ha1 := fun W => run_string_add_sum (P := Tryz.prog) (w := W) ⟨#[110, 101, 119, 34]⟩ ⟨#[v]⟩ (by have : (ByteArray.mk #[v]).size = 1 := rfl; have : (ByteArray.mk #[110, 101, 119, 34]).size = 4 := rfl; omega)
        obtain ⟨s2, hs2⟩ : ∃ x, x = (ByteArray.mk #[110, 101, 119, 34]) ++ (ByteArray.mk #[v]) := ⟨_, rfl⟩
        have hs2z : Hid (Sz s2) := Lib.hid (by rw [hs2, Sz, ByteArray.size_append]; have : (ByteArray.mk #[v]).size = 1 := rfl; have : (ByteArray.mk #[110, 101, 119, 34]).size = 4 := rfl; omega)
        have hyz : Hid (Sz y) := Lib.hid (by unfold Sz; omega)
        rw [← hs2] at ha1
        clear hs2 hy hy5 hv hT5 hcell
        go_region_law (first
          | (go_simp; (with_reducible refine (HJ.out _).mono ?_); rintro e w' ⟨rfl, rfl⟩)
          | (go_simp; (with_reducible refine (HJ5.out _).mono ?_); rintro e w' ⟨rfl, rfl⟩))
        all_goals
          go_wp2_with fail
          go_meet
          exact ⟨s2, y, rfl, rfl, hs2z.out, hyz.out, by first | exact ((Below.refl _ _).alloc (Nat.le_refl _) _).drew | exact (((Below.refl _ _).alloc (Nat.le_refl _) _).alloc (by simp) _).drew⟩
      case rest =>
        obtain ⟨q0, y, rfl, rfl, hq0, hy, hb⟩ := hcut
        obtain ⟨wa, rfl⟩ : ∃ x : World, x = wc := ⟨_, rfl⟩
        have HTa : Hid (OkT wa A' n' c' u) := Lib.hid (HT.out.below hb)
        have HWa : Hid (Below w.heap.size w wa) := Lib.hid (HW.out.trans (hb.mono HW.out.size))
        have Hq0 := Lib.hid hq0
        have Hy := Lib.hid hy
        have hxr := Hx.out
        obtain ⟨a3, b3, w3', v3'⟩ := tdiv_lim 3 (by omega) hxr
        obtain ⟨a5, b5, w5, v5⟩ := tdiv_lim 5 (by omega) hxr
        obtain ⟨a9, b9, w9, v9⟩ := tdiv_lim 9 (by omega) hxr
        obtain ⟨a13, b13, w13, v13⟩ := tdiv_lim 13 (by omega) hxr
        obtain ⟨a72, b72, w72, v72⟩ := tdiv_lim 72 (by omega) hxr
        obtain ⟨j4, hj4, HJ4'⟩ := within_nat (x.tdiv 3) 4 (by omega) (by omega) ⟨a3, b3⟩
        have HJ4 : Hid (∀ w, Calls Tryz.prog 10 #[.int .i64 (x.tdiv 3), .int .i64 4] w fun e w' => e = .returned (.int .i64 j4) ∧ w = w') := Lib.hid HJ4'
        obtain ⟨j8, hj8, HJ8'⟩ := within_nat (x.tdiv 9) 8 (by omega) (by omega) ⟨a9, b9⟩
        have HJ8 : Hid (∀ w, Calls Tryz.prog 10 #[.int .i64 (x.tdiv 9), .int .i64 8] w fun e w' => e = .returned (.int .i64 j8) ∧ w = w') := Lib.hid HJ8'
        obtain ⟨j13, hj13, HJ13'⟩ := within_nat (x.tdiv 13) 10 (by omega) (by omega) ⟨a13, b13⟩
        have HJ13 : Hid (∀ w, Calls Tryz.prog 10 #[.int .i64 (x.tdiv 13), .int .i64 10] w fun e w' => e = .returned (.int .i64 j13) ∧ w = w') := Lib.hid HJ13'
        obtain ⟨j72, hj72, HJ72'⟩ := within_nat (x.tdiv 72) 4 (by omega) (by omega) ⟨a72, b72⟩
        have HJ72 : Hid (∀ w, Calls Tryz.prog 10 #[.int .i64 (x.tdiv 72), .int .i64 4] w fun e w' => e = .returned (.int .i64 j72) ∧ w = w') := Lib.hid HJ72'
        obtain ⟨j9, hj9, HJ9'⟩ := within_nat x 9 (by omega) (by omega) hxr
        obtain ⟨dd, hdd⟩ : ∃ dd : Int, dd = (j9 : Int) := ⟨_, rfl⟩
        have HJ9 : Hid (∀ w, Calls Tryz.prog 10 #[.int .i64 x, .int .i64 9] w fun e w' => e = .returned (.int .i64 dd) ∧ w = w') := Lib.hid (by rw [hdd]; exact HJ9')
        have hd9 : Hid (dd = 0 ∨ dd = 1 ∨ dd = 2 ∨ dd = 3 ∨ dd = 4 ∨ dd = 5 ∨ dd = 6 ∨ dd = 7 ∨ dd = 8) := Lib.hid (by omega)
        have hun := HTa.out.holds.len
        have hul := u.len_size
        have hsz : u.size ≤ 430 := by have := HN.out.1; omega
        have Hsz := Lib.hid hsz
        have hcap := HTa.out.cap.1
        have Hj8 := Lib.hid hj8
        have Hj13 := Lib.hid hj13
        have Hj72 := Lib.hid hj72
        have hbr : Hid (n' = 0 ∨ (0 < n' ∧ j4 = 0) ∨ (0 < n' ∧ 0 < j4)) := Lib.hid (by omega)
        have Hun := Lib.hid hun
        have Hul := Lib.hid hul
        clear HJ4' HJ8' HJ13' HJ72' HJ9' hdd hj4 hj8 hj13 hj72 hj9 hq0 hy hb hxr a3 b3 a5 b5 a9 b9 a13 b13 a72 b72 w5 v5 hun hul hsz hcap HT HW hcell
        go_upto_region 6 with (fail)
        obtain ⟨bv, hbv⟩ : ∃ b, b = decide (0 < n' ∧ 0 < j4) := ⟨_, rfl⟩
        have Hbv := Lib.hid hbv
        clear hbv
        go_cut [47] from 11 to 125 (fun v wx => v = .bool bv ∧ wx = wa)
        case first =>
          rcases hbr.out with h0 | ⟨h0, h1⟩ | ⟨h0, h1⟩
          · have h0' : ¬ (0 : Int) < (n' : Int) := by omega
            obtain rfl : bv = false := by rw [Hbv.out]; exact decide_eq_false (by omega)
            clear h0 hbr Hbv
            go_wp2_with fail
            go_meet
            exact ⟨rfl, rfl⟩
          · have h0' : (0 : Int) < (n' : Int) := by omega
            have h1' : ¬ (0 : Int) < (j4 : Int) := by omega
            obtain rfl : bv = false := by rw [Hbv.out]; exact decide_eq_false (by omega)
            clear h0 h1 hbr Hbv
            go_wp2_with fail
            (with_reducible refine (HJ4.out _).mono ?_)
            rintro e w9 ⟨rfl, rfl⟩
            go_wp2_with fail
            go_meet
            exact ⟨by rw [decide_eq_false (by omega)], rfl⟩
          · have h0' : (0 : Int) < (n' : Int) := by omega
            have h1' : (0 : Int) < (j4 : Int) := by omega
            obtain rfl : bv = true := by rw [Hbv.out]; exact decide_eq_true ⟨h0, h1⟩
            clear h0 h1 hbr Hbv
            go_wp2_with fail
            (with_reducible refine (HJ4.out _).mono ?_)
            rintro e w9 ⟨rfl, rfl⟩
            go_wp2_with fail
            go_meet
            exact ⟨by rw [decide_eq_true (by omega)], rfl⟩
        case rest =>
          obtain ⟨hv0, hwx⟩ := hcut
          subst hv0
          obtain rfl : wa = wc := hwx.symm
          clear hbr
          go_upto_if 47 with (fail)
          go_cut [7] from 11 to 125 (fun r wx => (∃ q, r = .string q ∧ Sz q) ∧ wx = wa)
          case first =>
            cases bv with
            | false =>
              go_wp2_with fail
              go_meet
              exact ⟨⟨_, rfl, Hq0.out⟩, rfl⟩
            | true =>
              have h0 : 0 < n' := (of_decide_eq_true Hbv.out.symm).1
              have hxr := Hx.out
              obtain ⟨a5, b5, w5, v5⟩ := tdiv_lim 5 (by omega) hxr
              obtain ⟨j0, hj0, HJ0'⟩ := within_nat (x.tdiv 5) n' h0 (by have := Hun.out; have := Hul.out; have := Hsz.out; omega) ⟨a5, b5⟩
              have HJ0 : Hid (∀ w, Calls Tryz.prog 10 #[.int .i64 (x.tdiv 5), .int .i64 n'] w fun e w' => e = .returned (.int .i64 j0) ∧ w = w') := Lib.hid HJ0'
              obtain ⟨b1, o1, s1, kt1, r1, A1, n1, c1, rfl, hb1, hs1, hc1, hn1, hc1', hk1, hr1, hd1, hd2⟩ := HTa.out.holds.split j0 hj0
              have hnd := nm_drop u j0 HN.out.2
              rw [hd1] at hnd
              have Hs1 : Hid (Sz s1) := Lib.hid hnd.1
              have hj0I : (j0 : Int) < (n' : Int) := by omega
              have hj00 : (0 : Int) ≤ (j0 : Int) := by omega
              clear h0 HJ0' hxr a5 b5 hnd hk1 hr1 hd1 hd2 hc1 hn1 hc1' hj0
              go_wp2_with fail
              (with_reducible refine (HJ0.out _).mono ?_)
              rintro e w9 ⟨rfl, rfl⟩
              go_wp2_with fail
              go_meet
              exact ⟨⟨_, rfl, Hs1.out⟩, rfl⟩
          case rest =>
            obtain ⟨⟨q, rfl, hq⟩, hwx⟩ := hcut
            obtain rfl : wa = wc := hwx.symm
            have Hq := Lib.hid hq
            clear hq Hbv Hq0
            go_wp2_with fail
            (with_reducible refine (HJ9.out _).mono ?_)
            rintro e w9 ⟨rfl, rfl⟩
            have HEnd : Hid (∀ (uu : Tr) (W : World) (Az : Option Addr) (nz cz : Nat), OkT W Az nz cz uu → Tn (400 + 3 * k + 3) uu → Below wa.heap.size wa W → ∃ (k' : Nat) (A' : Option Addr) (n' c' : Nat) (u : Tr), k' ≤ 10 ∧ Value.int .i64 (k + 1) = .int .i64 k' ∧ Value.slice Az nz cz = .slice A' n' c' ∧ Hid (OkT W A' n' c' u) ∧ Hid (Tn (400 + 3 * k') u) ∧ Hid (Below w.heap.size w W)) :=
              Lib.hid (fun uu W Az nz cz h1 h2 h3 => ⟨k + 1, Az, nz, cz, uu, HL.out.2, by rw [Int.natCast_succ], rfl, Lib.hid h1, Lib.hid (tn_mono h2 (by omega)), Lib.hid (HWa.out.trans (h3.mono HWa.out.size))⟩)
            have HV := Lib.hid rvalueT_any
            have hSz1 : Hid (∀ v : UInt8, Sz ⟨#[119, v]⟩) := Lib.hid (fun v => by show (2 : Nat) ≤ _; omega)
            rcases hd9.out with rfl | rfl | rfl | rfl | rfl | rfl | rfl | rfl | rfl
            · have HD := Lib.hid (drop_w HTa.out Hsz.out q y).1
              go_wp2_with fail
              (with_reducible refine HD.out.mono ?_)
              rintro e wz ⟨Az, nz, cz, rfl, hok, hbz⟩
              have HE := Lib.hid (HEnd.out _ _ _ _ _ hok (tn_drop1 HN.out) (((Below.refl _ _).alloc (Nat.le_refl _) _).trans (hbz.mono (by simp))))
              clear hok hbz
              go_wp2_with fail
              go_roundw
              case rel => exact HE.out
              case measure => have := HL.out.2; simp [intOf]; omega
            iterate 2
              · have HD := Lib.hid (drop_w HTa.out Hsz.out q y).2
                go_wp2_with fail
                (with_reducible refine HD.out.mono ?_)
                rintro e wz ⟨Az, nz, cz, rfl, hok, hbz⟩
                have HE := Lib.hid (HEnd.out _ _ _ _ _ hok (tn_drop2 HN.out Hq.out) (((Below.refl _ _).alloc (Nat.le_refl _) _).trans (hbz.mono (by simp))))
                clear hok hbz
                go_wp2_with fail
                go_roundw
                case rel => exact HE.out
                case measure => have := HL.out.2; simp [intOf]; omega
            · go_wp2_with fail
              (with_reducible refine (HV.out _ _).mono ?_)
              rintro e wv ⟨Av, nv, cv, rfl, hv, hbv⟩
              have hB1 : Below wa.heap.size wa wv := ((Below.refl _ _).alloc (Nat.le_refl _) _).trans (hbv.mono (by simp))
              have HP := Lib.hid (put2_w (HTa.out.below hB1) Hsz.out ((hbv.block wa.heap.size (by simp)).trans (heap_alloc_new wa _)) hv)
              have HB1 := Lib.hid hB1
              clear hv hbv hB1
              go_wp2_with fail
              (with_reducible refine HP.out.mono ?_)
              rintro e wz ⟨Az, nz, cz, rfl, hok, hbz⟩
              have HE := Lib.hid (HEnd.out _ _ _ _ _ hok (tn_put2 HN.out Hq.out Hy.out (by show (4 : Nat) ≤ _; omega)) (HB1.out.trans (hbz.mono HB1.out.size)))
              clear hok hbz
              go_wp2_with fail
              go_roundw
              case rel => exact HE.out
              case measure => have := HL.out.2; simp [intOf]; omega
            · have HK := Lib.hid (kid2_any u _ n' c' wa.heap.size q wa HTa.out.holds (Nat.le_refl _) (by have := Hun.out; have := Hul.out; have := Hsz.out; omega))
              obtain ⟨v, hv⟩ : ∃ v, v = u.atIs q := ⟨_, rfl⟩
              rw [← hv] at HK
              clear hv
              cases v with
              | true =>
                go_wp2_with fail
                (with_reducible refine HK.out.mono ?_)
                rintro e wk ⟨A2', n2', c2', rfl, _, _, _, hqq⟩
                have hbk : Below wa.heap.size wa wk := by obtain ⟨qq, rfl⟩ := hqq; exact below_drewN (Below.refl _ _) qq
                have HE := Lib.hid (HEnd.out _ _ _ _ _ (HTa.out.below hbk) (tn_mono HN.out (by omega)) hbk)
                clear hqq hbk
                go_wp2_with fail
                go_roundw
                case rel => exact HE.out
                case measure => have := HL.out.2; simp [intOf]; omega
              | false =>
                go_wp2_with fail
                (with_reducible refine HK.out.mono ?_)
                rintro e wk ⟨A2', n2', c2', rfl, _, _, _, hqq⟩
                have hbk : Below wa.heap.size wa wk := by obtain ⟨qq, rfl⟩ := hqq; exact below_drewN (Below.refl _ _) qq
                have HP := Lib.hid (put1_w (HTa.out.below hbk) Hsz.out q)
                have HBk := Lib.hid hbk
                clear hqq hbk
                go_wp2_with fail
                (with_reducible refine HP.out.mono ?_)
                rintro e wz ⟨Az, nz, cz, rfl, hok, hbz⟩
                have HE := Lib.hid (HEnd.out _ _ _ _ _ hok (tn_put1 HN.out Hq.out) ((HBk.out.alloc HBk.out.size _).trans (hbz.mono (by have := HBk.out.size; simp; omega))))
                clear hok hbz
                go_wp2_with fail
                go_roundw
                case rel => exact HE.out
                case measure => have := HL.out.2; simp [intOf]; omega
            · by_cases h8 : j8 = 0
              · have hzb : ((j8 : Int) == 0) = true := by simp; omega
                clear h8
                go_wp2_with fail
                (with_reducible refine (HJ8.out _).mono ?_)
                rintro e w9 ⟨rfl, rfl⟩
                have hj4I : (j72 : Int) < 4 := by have := Hj72.out; omega
                have hj40 : (0 : Int) ≤ (j72 : Int) := by omega
                obtain ⟨y4, hy45, hy4⟩ := tab4cy j72 Hj72.out
                have HVx := Lib.hid rvalueX_any
                have y1 := tab4c (wa.alloc (Obj.cells #[Value.string ⟨#[107, 101, 121]⟩, .string ⟨#[]⟩, .string ⟨#[97, 10, 98]⟩, .string ⟨#[97, 13]⟩] 9)).drew wa.heap.size 9 (heap_alloc_new wa _) j72 y4 hy4
                have y2 := tab4c ((wa.alloc (Obj.cells #[Value.string ⟨#[107, 101, 121]⟩, .string ⟨#[]⟩, .string ⟨#[97, 10, 98]⟩, .string ⟨#[97, 13]⟩] 9)).alloc (Obj.cells #[Value.string ⟨#[120]⟩, Value.slice none 0 0] 55)).drew wa.heap.size 9 (two_low wa _ _) j72 y4 hy4
                have y3 := tab4c ((wa.alloc (Obj.cells #[Value.string ⟨#[120]⟩, Value.slice none 0 0] 55)).alloc (Obj.cells #[Value.string ⟨#[107, 101, 121]⟩, .string ⟨#[]⟩, .string ⟨#[97, 10, 98]⟩, .string ⟨#[97, 13]⟩] 9)).drew (wa.heap.size + 1) 9 (two_high wa _ _) j72 y4 hy4
                have HP1 := Lib.hid (put2_w (W := (((wa.alloc (Obj.cells #[Value.string ⟨#[107, 101, 121]⟩, .string ⟨#[]⟩, .string ⟨#[97, 10, 98]⟩, .string ⟨#[97, 13]⟩] 9)).alloc (Obj.cells #[Value.string q, Value.string y4] 9)).alloc (Obj.cells #[Value.string ⟨#[120]⟩, Value.slice none 0 0] 55)).drew) (HTa.out.below (below3 wa _ _ _)) Hsz.out (three_mid wa _ _ _) (val_ok (three_high wa _ _ _)))
                have HP2 := Lib.hid (put2_w (W := (((wa.alloc (Obj.cells #[Value.string ⟨#[107, 101, 121]⟩, .string ⟨#[]⟩, .string ⟨#[97, 10, 98]⟩, .string ⟨#[97, 13]⟩] 9)).alloc (Obj.cells #[Value.string ⟨#[120]⟩, Value.slice none 0 0] 55)).alloc (Obj.cells #[Value.string q, Value.string y4] 9)).drew) (HTa.out.below (below3 wa _ _ _)) Hsz.out (three_high wa _ _ _) (val_ok (three_mid wa _ _ _)))
                have HP3 := Lib.hid (put2_w (W := (((wa.alloc (Obj.cells #[Value.string ⟨#[120]⟩, Value.slice none 0 0] 55)).alloc (Obj.cells #[Value.string ⟨#[107, 101, 121]⟩, .string ⟨#[]⟩, .string ⟨#[97, 10, 98]⟩, .string ⟨#[97, 13]⟩] 9)).alloc (Obj.cells #[Value.string q, Value.string y4] 9)).drew) (HTa.out.below (below3 wa _ _ _)) Hsz.out (three_high wa _ _ _) (val_ok (three_low wa _ _ _)))
                have hy4z : Hid (Sz y4) := Lib.hid (by unfold Sz; omega)
                clear hy4 hy45
                go_wp2_with fail
                go_region_law (first
                  | (go_simp; (with_reducible refine (HJ72.out _).mono ?_); rintro e w' ⟨rfl, rfl⟩)
                  | (go_simp; (with_reducible refine (HVx.out _ _).mono ?_); rintro e w' ⟨rfl, rfl⟩)
                  | (go_simp; (first | (with_reducible refine HP1.out.mono ?_) | (with_reducible refine HP2.out.mono ?_) | (with_reducible refine HP3.out.mono ?_)); rintro e wz ⟨Az, nz, cz, rfl, hok, hbz⟩; have HE := Lib.hid (HEnd.out _ _ _ _ _ hok (tn_put2 HN.out Hq.out hy4z.out (by show (1 : Nat) ≤ _; omega)) ((below3 wa _ _ _).trans (hbz.mono (by simp; omega)))); clear hok hbz))
                all_goals
                  go_wp2_with fail
                  go_roundw
                  case rel => exact HE.out
                  case measure => have := HL.out.2; simp [intOf]; omega
              · have hzb : ((j8 : Int) == 0) = false := by simp; omega
                have HE := Lib.hid (HEnd.out _ _ _ _ _ HTa.out (tn_mono HN.out (by omega)) (Below.refl _ _))
                clear h8
                go_wp2_with fail
                (with_reducible refine (HJ8.out _).mono ?_)
                rintro e w9 ⟨rfl, rfl⟩
                go_wp2_with fail
                go_roundw
                case rel => exact HE.out
                case measure => have := HL.out.2; simp [intOf]; omega
            all_goals
              have hwr := u8_small48 j13 (by have := Hj13.out; omega)
              have hwr2 : IntKind.i64.wrap (48 + (j13 : Int)) = 48 + (j13 : Int) := IntWalk.i64_in _ (by have := Hj13.out; omega)
              have z1 := conv_at48 j13 (by have := Hj13.out; omega) ((wa.alloc (Obj.cells #[Value.string q, Value.string y] 9)).alloc (Obj.cells #[Value.int .u8 (48 + (j13 : Int))] 5)) (wa.heap.size + 1) (two_high wa _ _)
              obtain ⟨v, hv⟩ : ∃ v, v = UInt8.ofNat (48 + j13) := ⟨_, rfl⟩
              rw [← hv] at z1
              have ha1 := fun W => run_string_add_sum (P := Tryz.prog) (w := W) ⟨#[119]⟩ ⟨#[v]⟩ (by have : (ByteArray.mk #[v]).size = 1 := rfl; have : (ByteArray.mk #[119]).size = 1 := rfl; omega)
              obtain ⟨s2, hs2⟩ : ∃ x, x = (ByteArray.mk #[119]) ++ (ByteArray.mk #[v]) := ⟨_, rfl⟩
              have hs2z : Hid (Sz s2) := Lib.hid (by rw [hs2, Sz, ByteArray.size_append]; have : (ByteArray.mk #[v]).size = 1 := rfl; have : (ByteArray.mk #[119]).size = 1 := rfl; omega)
              rw [← hs2] at ha1
              clear hs2 hv
              go_wp2_with fail
              (with_reducible refine (HJ13.out _).mono ?_)
              rintro e w9 ⟨rfl, rfl⟩
              go_wp2_with fail
              (with_reducible refine (HV.out _ _).mono ?_)
              rintro e wv ⟨Av, nv, cv, rfl, hv, hbv⟩
              have hB1 : Below wa.heap.size wa wv := (((Below.refl _ _).alloc (Nat.le_refl _) _).alloc (by simp) _).trans (hbv.mono (by simp; omega))
              have HP := Lib.hid (put2_w (HTa.out.below hB1) Hsz.out ((hbv.block wa.heap.size (by simp; omega)).trans (two_low wa _ _)) hv)
              have HB1 := Lib.hid hB1
              clear hv hbv hB1
              go_wp2_with fail
              (with_reducible refine HP.out.mono ?_)
              rintro e wz ⟨Az, nz, cz, rfl, hok, hbz⟩
              have HE := Lib.hid (HEnd.out _ _ _ _ _ hok (tn_put2 HN.out Hq.out Hy.out hs2z.out) (HB1.out.trans (hbz.mono HB1.out.size)))
              clear hok hbz
              go_wp2_with fail
              go_roundw
              case rel => exact HE.out
              case measure => have := HL.out.2; simp [intOf]; omega
    · have hex : (k : Int) = 10 ∧ (10 : Int) < (n2 : Int) ∨ ¬ (k : Int) < (n2 : Int) := by omega
      have HN2 : Hid (Tn 430 u) := Lib.hid (tn_mono HN.out (by omega))
      clear hlt
      rcases hex with ⟨h1, h2⟩ | h1
      · obtain rfl : k = 10 := by omega
        clear h1
        go_wp2_with fail
        go_ret
        exact ⟨u, A', n', c', rfl, HT.out, HN2.out, HW.out⟩
      · go_wp2_with fail
        go_ret
        exact ⟨u, A', n', c', rfl, HT.out, HN2.out, HW.out⟩
end Go.Proofs.YtlcbhooiinaalaaGreatDoor.Cv
