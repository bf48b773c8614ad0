/- Names of the reference. Conditions: fewer than 2^39 names. -/
import Derived.Test.YtcfaocjgflefmaaRDrop
import Derived.Test.YtcfaocjgflefmaaNames
import Derived.Test.YtcfaocjgflefmaaNamesMath
import Derived.Outline
namespace Go.Proofs.Ytcfaocjgflefmaa.Pt
open Go.RowKit
set_option maxRecDepth 100000

theorem withT_mem' {name : ByteArray} {x : Tr} {y : List UInt8} : ∀ {t : Tr}, y = name.data.toList ∨ y ∈ t.bn → y ∈ (t.withT name x).bn
  | .nil, h => by
    rw [show Tr.nil.withT name x = .cons name x .nil from rfl, bn_cons, List.mem_cons]
    exact h
  | .cons s k r, h => by
    rcases cases3 s name with c1 | ⟨c1, c2⟩ | ⟨c1, c2, _⟩
    · rw [withT_lt c1, bn_cons, List.mem_cons]
      rw [bn_cons, List.mem_cons] at h
      rcases h with h | h | h
      · exact .inr (withT_mem' (.inl h))
      · exact .inl h
      · exact .inr (withT_mem' (.inr h))
    · have e := names_of_eq c2
      rw [withT_eq c1 c2, bn_cons, List.mem_cons]
      rw [bn_cons, List.mem_cons] at h
      rcases h with h | h | h
      · exact .inl h
      · exact .inl (by rw [h, e])
      · exact .inr h
    · rw [withT_gt c1 c2, bn_cons, List.mem_cons]
      exact h
def insAll (L : List ByteArray) : Tr := L.foldl (fun acc s => acc.withT s .nil) .nil
theorem insAll_snoc (L : List ByteArray) (s : ByteArray) : insAll (L ++ [s]) = (insAll L).withT s .nil := by simp [insAll]
theorem insAll_facts : ∀ L : List ByteArray, AscD (insAll L) ∧ (insAll L).len ≤ L.length ∧ ∀ y, y ∈ (insAll L).bn ↔ y ∈ L.map (·.data.toList) := by
  suffices h : ∀ (n : Nat) (L : List ByteArray), L.length = n → AscD (insAll L) ∧ (insAll L).len ≤ L.length ∧ ∀ y, y ∈ (insAll L).bn ↔ y ∈ L.map (·.data.toList) from fun L => h _ L rfl
  intro n
  induction n with
  | zero =>
    intro L hL
    obtain rfl : L = [] := List.length_eq_zero_iff.1 hL
    exact ⟨trivial, Nat.le_refl _, fun y => Iff.rfl⟩
  | succ n ih =>
    intro L hL
    obtain ⟨M, s, rfl⟩ : ∃ M s, L = M ++ [s] := ⟨L.dropLast, L.getLast (by intro e; rw [e] at hL; simp at hL), (List.dropLast_concat_getLast _).symm⟩
    obtain ⟨h1, h2, h3⟩ := ih M (by simpa using hL)
    rw [insAll_snoc]
    refine ⟨withT_ascD (show AscD .nil from trivial) h1, ?_, fun y => ?_⟩
    · have := withT_len s .nil (insAll M)
      rw [List.length_append]
      simp only [List.length_cons, List.length_nil]
      omega
    · rw [List.map_append, List.mem_append, ← h3]
      constructor
      · intro hy
        rcases withT_mem hy with e | e
        · exact .inr (by simp [e])
        · exact .inl e
      · rintro (hy | hy)
        · exact withT_mem' (.inr hy)
        · exact withT_mem' (.inl (by simpa using hy))
theorem insAll_bn (L : List ByteArray) : (insAll L).bn = namesOf L := by
  obtain ⟨h1, _, h3⟩ := insAll_facts L
  exact asc_eq h1.asc (namesOf_pair _) (fun x => (h3 x).trans (namesOf_mem L x).symm)
theorem strs_enc (l : List ByteArray) : strs l = (l.map (·.data.toList)).map encs := by
  simp only [strs, List.map_map]
  exact List.map_congr_left fun s _ => rfl
theorem own_seesV {w : World} {base n c : Nat} {A : Option Addr} {e : TypeId} {vs : List Value} (ho : w.ownsRow base e 1 (.slice A n c) n vs) : SeesV w w.heap.size A n vs := by
  have hl := ho.1
  refine ⟨by omega, fun j u hu => ?_⟩
  rcases ho.2 with ⟨e1, hn0⟩ | ⟨g, cap, cur, e1, _, hh, _⟩
  · obtain rfl : vs = [] := List.length_eq_zero_iff.1 (by omega)
    cases hu
  · injection e1 with e1 e2 e3
    subst e1
    have := rowCells ho j u hu
    rw [Addr.add_lit] at this
    exact ⟨g, 0, rfl, (Array.getElem?_eq_some_iff.1 hh).1, this⟩

set_option maxHeartbeats 2000000 in
theorem rnames_any (xs : List Slc) (A0 : Option Addr) (n0 c0 B : Nat) (w : World) (hx : Forest w B A0 xs) (hn0 : n0 = xs.length) (hB : B ≤ w.heap.size) (hsz : (allNames xs).length ≤ 549755813888) (hl : xs.length ≤ 549755813888) :
    Calls Try.prog 28 #[.slice A0 n0 c0] w fun e w' => ∃ A' c', e = .returned (.slice A' (namesOf (allNames xs)).length c') ∧ SeesV w' w'.heap.size A' (namesOf (allNames xs)).length ((namesOf (allNames xs)).map encs) ∧ Below w.heap.size w w' := by
  have Hn0 := Lib.hid hn0
  have hnb : n0 ≤ 549755813888 := by omega
  have Hsz := Lib.hid hsz
  clear hn0 hsz
  go_enter Try.func28, Try.ntmps28
  go_wp2_with fail
  go_loopw [3, 4] (fun s i wr => ∃ (k : Nat) (A : Option Addr) (N c : Nat), k ≤ n0 ∧ i = .int .i64 k ∧ s = .slice A N c ∧ OkT wr A N c (insAll (allNames (xs.take k))) ∧ Below w.heap.size w wr) (fun _ i _ => n0 - (intOf i).toNat)
  case atStart => exact ⟨0, none, 0, 0, Nat.zero_le _, rfl, rfl, ⟨rfl, Nat.le_refl _, Nat.zero_le _⟩, Below.refl _ _⟩
  case round =>
    obtain ⟨k, A, N, c, hk, rfl, rfl, ho, hb⟩ := hrel
    by_cases hlt : k < n0
    · obtain ⟨x, hxk⟩ : ∃ x, xs[k]? = some x := ⟨xs[k]'(by have := Hn0.out; omega), List.getElem?_eq_getElem _⟩
      obtain ⟨b, o, rfl, hbB, hcx, hh⟩ := hx k x hxk
      obtain ⟨xa, xn, xc, t⟩ := x
      simp only at hcx hh
      have hcw := (hb.cell (p := ⟨b, o + k, none⟩) (show b < w.heap.size by omega)).trans hcx
      have hkn : (k : Int) < (n0 : Int) := by omega
      have hk0 : (0 : Int) ≤ (k : Int) := by omega
      have hkb : k ≤ 549755813888 := by omega
      have Hn := Lib.hid hh.len
      have hap : Hid (allNames (xs.take (k + 1)) = allNames (xs.take k) ++ t.names) := by
        rw [List.take_add_one, hxk]
        exact Lib.hid (by simp [allNames])
      have hle : Hid ((allNames (xs.take (k + 1))).length ≤ 549755813888) := by
        have : (allNames (xs.take (k + 1))).length ≤ (allNames xs).length := by
          conv => rhs; rw [← List.take_append_drop (k + 1) xs]
          simp only [allNames, List.flatMap_append, List.length_append]
          omega
        exact Lib.hid (Nat.le_trans this Hsz.out)
      have hxn : xn ≤ 549755813888 := by
        have h1 := hle.out
        rw [hap.out, List.length_append, names_length] at h1
        have := Hn.out
        omega
      have hbw : b < w.heap.size := by omega
      have HO := Lib.hid ho
      clear hcx ho
      go_wp2_with fail
      go_loopw [3, 5] (fun s i wl => ∃ (j : Nat) (A : Option Addr) (N c : Nat), j ≤ xn ∧ i = .int .i64 j ∧ s = .slice A N c ∧ Hid (OkT wl A N c (insAll (allNames (xs.take k) ++ t.names.take j))) ∧ Below w.heap.size w wl) (fun _ i _ => xn - (intOf i).toNat)
      case atStart => exact ⟨0, A, N, c, Nat.zero_le _, rfl, rfl, by rw [List.take_zero, List.append_nil]; exact HO, hb⟩
      case round =>
        clear HO
        obtain ⟨j, A, N, c, hj, rfl, rfl, HO, hbl⟩ := hrel
        have hcl := (hbl.cell (p := ⟨b, o + k, none⟩) hbw).trans ((hb.cell (p := ⟨b, o + k, none⟩) hbw).symm.trans hcw)
        by_cases hlj : j < xn
        · obtain ⟨b2, o2, s, kt, r, A', n', c', rfl, hb2, hs2, hc2, hn', hc', hk', hr, hd, hd2⟩ := (hh.keep fun p hp => hbl.cell (Nat.lt_of_lt_of_le hp hB)).split j hlj
          have hjn : (j : Int) < (xn : Int) := by omega
          have hj0 : (0 : Int) ≤ (j : Int) := by omega
          have ht1 : Hid (insAll (allNames (xs.take k) ++ t.names.take (j + 1)) = (insAll (allNames (xs.take k) ++ t.names.take j)).withT s .nil) := by
            have h1 := names_drop t j
            rw [hd] at h1
            have h2 : t.names[j]? = some s := by
              have := congrArg (·[0]?) h1
              simp [Tr.names] at this
              exact this.symm
            rw [List.take_add_one, h2, ← insAll_snoc]
            exact Lib.hid (by simp)
          have hN2 : N ≤ 549755813888 := by
            have h1 := hle.out
            have h3 := (insAll_facts (allNames (xs.take k) ++ t.names.take j)).2.1
            rw [hap.out, List.length_append, names_length] at h1
            rw [List.length_append, List.length_take, names_length] at h3
            have := HO.out.holds.len
            omega
          have hcap := HO.out.cap.1
          have HC := Lib.hid (with_any (insAll (allNames (xs.take k) ++ t.names.take j)) .nil A none N c 0 0 wr.heap.size s wr HO.out.holds rfl (Nat.le_refl _) hN2 hcap (Nat.le_refl _) (Nat.zero_le _))
          clear hd hd2 hr HO hN2 hcap
          go_wp2_with fail
          (with_reducible refine HC.out.mono ?_)
          rintro e w2 ⟨A2, n2, c2, rfl, hx2, hn2, hm2, hb2'⟩
          have Hx2 := Lib.hid hx2
          clear hx2
          go_wp2_with fail
          go_roundw
          case rel => exact ⟨j + 1, A2, n2, c2, by omega, by go_num, rfl, by rw [ht1.out]; exact Lib.hid ⟨Hx2.out, hn2, hm2⟩, hbl.trans (hb2'.mono hbl.size)⟩
          case measure => simp [intOf]; omega
        · obtain rfl : j = xn := by omega
          have ho' : OkT wr A N c (insAll (allNames (xs.take (k + 1)))) := by
            have ho := HO.out
            rw [hap.out]
            rw [List.take_of_length_le (l := t.names) (by rw [names_length, Hn.out]; exact Nat.le_refl _)] at ho
            exact ho
          clear HO
          go_wp2_with fail
          go_roundw
          case rel => exact ⟨k + 1, A, N, c, by omega, by go_num, rfl, ho', hbl⟩
          case measure => simp [intOf]; omega
    · obtain rfl : k = n0 := by omega
      rw [List.take_of_length_le (by have := Hn0.out; omega)] at ho
      obtain ⟨T, hT⟩ : ∃ T, T = insAll (allNames xs) := ⟨_, rfl⟩
      have hbn := insAll_bn (allNames xs)
      have hTl := (insAll_facts (allNames xs)).2.1
      rw [← hT] at ho hbn hTl
      have Hbn := Lib.hid hbn
      have hNl := ho.holds.len
      have HNl := Lib.hid hNl
      have hNb : N ≤ 549755813888 := by have := Hsz.out; omega
      have HO := Lib.hid ho
      clear hT hbn hTl hNl ho hlt
      go_wp2_with fail
      go_loopw [6, 7] (fun s i wl => ∃ (j : Nat) (A' : Option Addr) (M c' : Nat), j ≤ N ∧ i = .int .i64 j ∧ s = .slice A' M c' ∧ wl.ownsRow wr.heap.size 9 1 (.slice A' M c') M (strs (T.names.take j)) ∧ Below wr.heap.size wr wl) (fun _ i _ => N - (intOf i).toNat)
      case atStart => exact ⟨0, none, 0, 0, Nat.zero_le _, rfl, rfl, World.ownsRow_nil _ _ _ _, Below.refl _ _⟩
      case round =>
        obtain ⟨j, A', M, c', hj, rfl, rfl, ho, hbl⟩ := hrel
        have hM : M = (T.names.take j).length := by
          have := ho.1
          simp only [strs, List.length_map] at this
          omega
        by_cases hlj : j < N
        · obtain ⟨b2, o2, s, kt, r, Ak, nk, ck, rfl, hb2, hs2, hc2, hnk, hck, hk', hr, hd, hd2⟩ := (HO.out.holds.below hbl).split j hlj
          have hjn : (j : Int) < (N : Int) := by omega
          have hj0 : (0 : Int) ≤ (j : Int) := by omega
          have ht1 : Hid (strs (T.names.take j) ++ strs [s] = strs (T.names.take (j + 1))) := by
            have h1 := names_drop T j
            rw [hd] at h1
            have h2 : T.names[j]? = some s := by
              have := congrArg (·[0]?) h1
              simp [Tr.names] at this
              exact this.symm
            rw [List.take_add_one, h2]
            exact Lib.hid (by simp [strs])
          have hM2 : M + 1 ≤ 1099511627776 := by
            rw [List.length_take] at hM
            omega
          have hsz1 := hbl.size
          have hbx : b2 < wr.heap.size := by omega
          have hsrc : ∀ (W : World) (g : Nat), g = W.heap.size → Src Try.prog 1 31 (.slice (some ⟨g, 0, none⟩) 1 1) 1 (strs [s]) (W.alloc (Obj.cells #[Value.string s] 9)) := fun W g hg =>
            hg ▸ Src.laid Try.underlying31 rfl (fun j u hu => by rw [cell_of_row _ _ _ _ _ _ (heap_alloc_new W _), ← hu]; simp [strs]) (strs_one _)
          clear hd hd2 hr hM hk' hc2
          go_wp2_with (at_builtin; refine wpList_append_row rfl (.tmp 39) (.tmp 45) _ _ rfl elem_str rfl rfl (ho.alloc _) (hsrc _ _ rfl) hM2 (by simp; omega) ?_; intro A2 c2 w2 ho2 hg2 hat2)
          have hb2' := (hbl.alloc hbl.size _).grown hg2 (by simp; omega) (fun q hq => (ho.lt q hq).1)
          go_roundw
          case rel => exact ⟨j + 1, A2, M + 1, c2, by omega, by go_num, rfl, by rw [← ht1.out]; exact ho2, hb2'⟩
          case measure => simp [intOf]; omega
        · obtain rfl : j = N := by omega
          rw [List.take_of_length_le (by rw [names_length, ← HNl.out]; exact Nat.le_refl _)] at ho hM
          have hsee := own_seesV ho
          rw [strs_enc, show T.names.map (·.data.toList) = namesOf (allNames xs) from Hbn.out] at hsee
          have hML : M = (namesOf (allNames xs)).length := by
            have := hsee.len
            rwa [List.length_map] at this
          have HS := Lib.hid hsee
          have HML := Lib.hid hML
          clear ho hM hML hsee hlj
          go_wp2_with fail
          go_ret
          exact ⟨A', c', by rw [← HML.out]; rfl, by rw [← HML.out]; exact HS.out, hb.trans (hbl.mono hb.size)⟩
end Go.Proofs.Ytcfaocjgflefmaa.Pt
