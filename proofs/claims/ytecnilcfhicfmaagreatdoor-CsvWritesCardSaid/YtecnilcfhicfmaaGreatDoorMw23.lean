/- tree.clone, walked. Conditions: fewer than 2^39 edges. · tree.Get: what is below a path, anew. Conditions: edges in order at each level, fewer than 2^38 of them. -/
import Derived.Test.YtecnilcfhicfmaaGreatDoorMw22
import Derived.Deep.LoopGhost
import Derived.Test.YtecnilcfhicfmaaGreatDoorPthMath
namespace Go.Proofs.YtecnilcfhicfmaaGreatDoor.Cl
open Go.RowKit
set_option maxRecDepth 100000

set_option maxHeartbeats 4000000 in
theorem clone_any (t : Tr) (A : Option Addr) (n c : Nat) (w : World) (h : Holds w w.heap.size A n t) (hsz : t.size ≤ 549755813888) :
    Calls Tryz.prog 55 #[.slice A n c] w fun e w' => ∃ A' c', e = .returned (.slice A' n c') ∧ n ≤ c' ∧ c' ≤ maxLen ∧ Holds w' w'.heap.size A' n t ∧ Below w.heap.size w w' := by
  have hnl : n ≤ 549755813888 := by have := h.len; have := t.len_size; omega
  have hP : HoldsP w (Pw w w.heap.size) A n t := (HoldsP.of h).more fun b hb => .inl hb
  have HL := Lib.hid (level_hp t A n c (Pw w w.heap.size) w hP (fun b hb => hb.lt (Nat.le_refl _)) (by omega))
  clear h
  go_enter Tryz.func55, Tryz.ntmps55
  go_wp2_with fail
  (with_reducible refine HL.out.mono ?_)
  rintro e w1 ⟨A1, c1, rfl, hg1, hn1, hm1, hh1, ha1⟩
  have J0 : JobOK w1 w.heap.size (⟨A1, n, c1⟩, t) := level_ok (Nat.le_refl _) hg1 hh1 ha1
  have HJ := Lib.hid J0
  have HG := Lib.hid hg1
  clear hh1 ha1 J0 hg1
  go_wp2_with fail
  obtain ⟨b0, hb0⟩ : ∃ b0, b0 = w.heap.size := ⟨_, rfl⟩
  obtain ⟨g, hg⟩ : ∃ g, g = w1.heap.size + 1 := ⟨_, rfl⟩
  have Hb0 := Lib.hid hb0
  have Hg := Lib.hid hg
  rw [← hb0] at HJ
  rw [← hg]
  go_loopg [] (t.size + 1) (fun k wr => ∃ X : List (CJob × Tr), Hid (k = load (X.map Prod.snd)) ∧ ClSt wr b0 g A1 n t X ∧ k ≤ t.size + 1 ∧ Below b0 w wr)
  case atStart =>
    have hsz1 := HG.out.size
    have St : ClSt ((w1.alloc (Obj.cells #[Value.slice A1 n c1] 24)).alloc (Obj.cells #[Value.slice (some ⟨w1.heap.size, 0, none⟩) 1 1] 139)) b0 g A1 n t [(⟨A1, n, c1⟩, t)] := by
      have hk : ∀ b, Pw w1 b0 b → ((w1.alloc (Obj.cells #[Value.slice A1 n c1] 24)).alloc (Obj.cells #[Value.slice (some ⟨w1.heap.size, 0, none⟩) 1 1] 139)).heap[b]? = w1.heap[b]? := fun b hb => by
        have hlt := hb.lt (by omega)
        rw [Below.heap_alloc _ _ _ (by simp; omega), Below.heap_alloc _ _ _ hlt]
      refine ⟨⟨by omega, some ⟨w1.heap.size, 0, none⟩, 1, ?_, ?_⟩, HJ.out.holds.step hk, fun p hp => ?_, by simp; omega⟩
      · rw [hg]
        exact (by rw [show w1.heap.size + 1 = (w1.alloc (Obj.cells #[Value.slice A1 n c1] 24)).heap.size by simp]; exact heap_alloc_new _ _)
      · exact (World.ownsRow_lit (base := b0) (e := 24) (size := 1) w1 #[Value.slice A1 n c1] 1 (by omega) (by simp [maxLen]) rfl).alloc _
      · simp only [List.mem_cons, List.not_mem_nil, or_false] at hp
        subst hp
        exact HJ.out.step hk
    refine ⟨[(⟨A1, n, c1⟩, t)], Lib.hid (by simp [load]), St, Nat.le_refl _, ?_⟩
    exact (((Below.refl b0 w).grown HG.out (by omega) (fun k hk => by cases hk)).alloc (by omega) _).alloc (by simp; omega) _
  case round =>
    clear hg hb0
    obtain ⟨X, Hk, hst, hk, hbw⟩ := hrel
    rcases List.eq_nil_or_concat X with rfl | ⟨X, x, rfl⟩
    · obtain ⟨A2, c2, hbx, _⟩ := hst.stk.row
      have hbox : wr.cell? ⟨g, 0, none⟩ = some (.slice A2 0 c2) := by rw [cell_of_row wr g 0 _ _ _ hbx]; rfl
      clear hbx
      go_wp2_with fail
      go_ret
      exact ⟨A1, c1, rfl, hn1, hm1, HoldsP.to (fun b hb => hb.lt hst.size) hst.whole, by rw [← Hb0.out]; exact hbw⟩
    · obtain ⟨⟨a1, nx, cx⟩, u⟩ := x
      obtain ⟨A2, c2, hbx, _⟩ := hst.stk.row
      have hlen : (List.map Prod.fst (X.concat (⟨a1, nx, cx⟩, u))).length = X.length + 1 := by simp
      rw [hlen] at hbx
      have hload : gk = load (X.map Prod.snd) + (u.size + 1) := by rw [Hk.out, List.concat_eq_append, List.map_append, load_append]; simp [load]
      have hll := load_len (X.map Prod.snd)
      rw [List.length_map] at hll
      have hXl : (X.map Prod.fst).length ≤ 1099511627776 := by rw [List.length_map]; omega
      have HP := Lib.hid (cpop_any b0 g (X.map Prod.fst) ⟨a1, nx, cx⟩ wr (by simpa using hst.stk) hXl)
      obtain ⟨N, hN⟩ : ∃ N, N = X.length := ⟨_, rfl⟩
      rw [← hN] at hbx
      have hN2 : N ≤ 1099511627776 := by rw [hN]; omega
      have hN3 : (0 : Int) < (N : Int) + 1 := by omega
      have hbox : wr.cell? ⟨g, 0, none⟩ = some (.slice A2 (N + 1) c2) := by rw [cell_of_row wr g 0 _ _ _ hbx]; rfl
      have Hld := Lib.hid hload
      clear hbx hlen hN hXl hload hll
      go_wp2_with fail
      (with_reducible refine HP.out.mono ?_)
      rintro e w2 ⟨rfl, hs2, hg2⟩
      obtain ⟨hst2, hj2⟩ := ClSt.pop (by simpa using hst) hs2 hg2
      have hbw2 : Below b0 wr w2 := (Below.refl b0 wr).grown hg2 hst.size (fun k hk => by injection hk with hk; have := hst.stk.le; omega)
      have hnx := hj2.holds.len
      simp only at hnx
      have hux := u.len_size
      have hld := Hld.out
      have hnb : nx ≤ 549755813889 := by omega
      have Hnx := Lib.hid hnx
      have Hux := Lib.hid hux
      have hbz := hbw.trans hbw2
      clear hnx hux hld HP hst hs2 hg2 hbox hN2 hN3 hbw hbw2
      go_wp2_with fail
      go_loopw [17] (fun i wl => ∃ (j : Nat) (X2 : List (CJob × Tr)), j ≤ nx ∧ i = .int .i64 j ∧ ClSt wl b0 g A1 n t X2 ∧ JobOK wl b0 (⟨a1, nx, cx⟩, u) ∧ Hid (load (X2.map Prod.snd) + load ((subs u).drop j) + 1 = gk) ∧ Below b0 w wl) (fun i _ => nx - (intOf i).toNat)
      case atStart => exact ⟨0, X, Nat.zero_le _, rfl, hst2, hj2, by have := Hld.out; rw [List.drop_zero, load_subs]; exact Lib.hid (by omega), hbz⟩
      case round =>
        clear hst2 hj2 hbz
        obtain ⟨j, X2, hj, rfl, hst, hjb, Hl, hbl⟩ := hrel
        by_cases hlt : j < nx
        · have hjl : j < (subs u).length := by rw [subs_len, ← Hnx.out]; exact hlt
          have hdr := List.drop_eq_getElem_cons hjl
          have hv := List.getElem?_eq_getElem hjl
          obtain ⟨v, hve⟩ : ∃ v, v = (subs u)[j] := ⟨_, rfl⟩
          rw [← hve] at hdr hv
          have hl := Hl.out
          rw [hdr] at hl
          simp only [load] at hl
          have hvl := v.len_size
          obtain ⟨vs, _, _, _, hA⟩ := hjb.holds.row
          obtain ⟨b', o', e', _⟩ := hA (by simp only; omega)
          simp only at e'
          subst e'
          obtain ⟨d, e', hd, cur, hh⟩ := hjb.row _ rfl
          injection e' with e1 e2
          subst e1; subst e2
          obtain ⟨A', n', c', hc, hn', hm', hh'⟩ := hjb.holds.sub hv
          rw [Nat.zero_add] at hc
          have hnv := hh'.len
          have hn40 : n' ≤ 1099511627776 := by omega
          have hfr : ∀ q, wr.frozen? ⟨b', q, none⟩ = false := fun q => by simp [World.frozen?, hh]
          have hjn : (j : Int) < (nx : Int) := by omega
          have hj0 : (0 : Int) ≤ (j : Int) := by omega
          have HL := Lib.hid (level_hp v A' n' c' (Pw wr b0) wr hh' (fun b hb => hb.lt hst.size) hn40)
          have He : Hid (load (X2.map Prod.snd) + (v.size + 1) + load ((subs u).drop (j + 1)) + 1 = gk) := Lib.hid (by omega)
          have hX2 := load_len (X2.map Prod.snd)
          rw [List.length_map] at hX2
          have hX3 : X2.length ≤ 549755813889 := by omega
          have HX := Lib.hid hX3
          have Hst := Lib.hid hst
          have Hjb := Lib.hid hjb
          have Hh := Lib.hid hh
          have Hc := Lib.hid hc
          have Hh' := Lib.hid hh'
          clear hv hve hdr hl hvl hnv hX2 hX3 hh' hst hjb hA Hl hh
          go_wp2_with fail
          (with_reducible refine HL.out.mono ?_)
          rintro e w3 ⟨A3, c3, rfl, hg3, hn3, hm3, hh3, ha3⟩
          have hsz3 := hg3.size
          have hst := Hst.out
          have hk3 : ∀ b, Pw wr b0 b → w3.heap[b]? = wr.heap[b]? := fun b hb => hg3.block b (hb.lt hst.size) (fun e => by cases e)
          have St3 := hst.grow hg3
          have J3 := Hjb.out.step hk3
          have JN3 : JobOK w3 b0 (⟨A3, n', c3⟩, v) := level_ok hst.size hg3 hh3 ha3
          have hdr : w3.heap[b']? = some (.cells cur 27 (0, 0)) := (hk3 b' (.inr ⟨hd, cur, Hh.out⟩)).trans Hh.out
          have hq3 : w3.cell? ⟨b', j * 2 + 1, none⟩ = some (.slice A' n' c') := (World.cell?_of_block (hk3 b' (.inr ⟨hd, cur, Hh.out⟩))).trans Hc.out
          have hz3 := Hh'.out.step hk3
          have St4 := St3.set hdr hq3 hz3 JN3.holds hn3 hm3
          have J4 : JobOK (w3.setCell ⟨b', j * 2 + 1, none⟩ (.slice A3 n' c3)) b0 (⟨some ⟨b', 0, none⟩, nx, cx⟩, u) := ⟨JobOK.set hdr hq3 hz3 JN3.holds hn3 hm3 J3.holds, J3.row.set hdr⟩
          have JN4 : JobOK (w3.setCell ⟨b', j * 2 + 1, none⟩ (.slice A3 n' c3)) b0 (⟨A3, n', c3⟩, v) := ⟨JobOK.set hdr hq3 hz3 JN3.holds hn3 hm3 JN3.holds, JN3.row.set hdr⟩
          have hb3 : Below b0 wr w3 := (Below.refl b0 wr).grown hg3 hst.size (fun k hk => by cases hk)
          have hb4 : Below b0 wr (w3.setCell ⟨b', j * 2 + 1, none⟩ (.slice A3 n' c3)) := hb3.setCell hd _
          have hfr3 : w3.frozen? ⟨b', j * 2 + 1, none⟩ = false := by simp [World.frozen?, hdr]
          have hat4 : (w3.setCell ⟨b', j * 2 + 1, none⟩ (.slice A3 n' c3)).cell? ⟨b', j * 2 + 1, none⟩ = some (.slice A3 n' c3) := by
            rw [cell_of_row _ _ _ _ _ _ (heap_setCell_same w3 b' (j * 2 + 1) cur _ _ hdr)]
            have : j * 2 + 1 < cur.size := by
              rw [cell_of_row _ _ _ _ _ _ hdr] at hq3
              exact (Array.getElem?_eq_some_iff.1 hq3).1
            simp [this]
          obtain ⟨w4, hw4⟩ : ∃ W, W = w3.setCell ⟨b', j * 2 + 1, none⟩ (.slice A3 n' c3) := ⟨_, rfl⟩
          rw [← hw4] at St4 J4 JN4 hb4 hat4
          have hS4 := Lib.hid St4
          have hJ4 := Lib.hid J4
          have hJN4 := Lib.hid JN4
          have HB4 := Lib.hid hb4
          clear St4 J4 JN4 hb4 hb3 hz3 JN3 J3 St3 hk3 hst hh3 ha3 hdr hc hfr hg3
          go_wp2_with fail
          rw [← hw4]
          have hz4 : w4.heap.size = w3.heap.size := by rw [hw4]; simp [World.setCell]
          have hsb := hS4.out.size
          have hka : ∀ b, Pw w4 b0 b → (w4.alloc (Obj.cells #[Value.slice A3 n' c3] 24)).heap[b]? = w4.heap[b]? := fun b hb => Below.heap_alloc _ _ b (hb.lt hsb)
          have St5 := hS4.out.alloc (Obj.cells #[Value.slice A3 n' c3] 24)
          have HC := cpush_any b0 g w3.heap.size 0 1 1 (X2.map Prod.fst) [⟨A3, n', c3⟩] (w4.alloc (Obj.cells #[Value.slice A3 n' c3] 24)) St5.stk rfl
            (fun q v hv => by
              match q, hv with
              | 0, hv => rw [cell_of_row _ _ _ _ _ _ (by rw [← hz4]; exact heap_alloc_new _ _)]; simpa [cjobs, CJob.cells] using hv
              | q + 1, hv => simp [cjobs, CJob.cells] at hv)
            (by rw [List.length_map]; have := HX.out; omega) (by simp; omega)
          (with_reducible refine HC.mono ?_)
          rintro e w5 ⟨⟨vv, rfl⟩, hs5, hb5, hg5⟩
          obtain ⟨St6, J6⟩ := St5.push (hJN4.out.step hka) (hJ4.out.step hka) hs5 hb5 (fun k hk hf => (hg5 k hk hf).1)
          have hb6 : Below b0 wr w5 := (HB4.out.alloc (by omega) _).trans hb5
          clear hka St5 HC hs5 hb5 hg5 hw4 hat4 hfr3 hq3
          go_wp2_with fail
          go_roundw
          case rel => exact ⟨j + 1, X2 ++ [(⟨A3, n', c3⟩, v)], by omega, by go_num, St6, J6, by have := He.out; rw [List.map_append, load_append]; simp only [List.map_cons, List.map_nil, load]; exact Lib.hid (by omega), hbl.trans hb6⟩
          case measure => simp [intOf]; omega
        · obtain rfl : j = nx := by omega
          have hnil : (subs u).drop j = [] := List.drop_eq_nil_of_le (by rw [subs_len, ← Hnx.out]; exact Nat.le_refl _)
          have hl := Hl.out
          rw [hnil] at hl
          simp only [load, Nat.add_zero] at hl
          clear hnil hlt
          go_wp2_with fail
          go_roundg (load (X2.map Prod.snd))
          case measure => omega
          case rel => exact ⟨X2, Lib.hid rfl, hst, by omega, hbl⟩
end Go.Proofs.YtecnilcfhicfmaaGreatDoor.Cl
namespace Go.Proofs.YtecnilcfhicfmaaGreatDoor.Pt
open Go.RowKit Go.Proofs.YtecnilcfhicfmaaGreatDoor.Jd Go.Proofs.YtecnilcfhicfmaaGreatDoor.Cl
set_option maxRecDepth 100000

def GetP (w : World) (r : Tr × Bool) (e : Ending) (w' : World) : Prop :=
  ∃ A' n' c', e = .returned (.tuple #[.slice A' n' c', .bool r.2]) ∧ n' ≤ c' ∧ c' ≤ maxLen ∧ Holds w' w'.heap.size A' n' r.1 ∧ Below w.heap.size w w'

theorem kid_drop {name : ByteArray} : ∀ {t : Tr}, t.atIs name = true → ∃ r, t.dropT (t.atN name) = .cons name (kidT t name) r
  | .nil, h => by simp [Tr.atIs, Tr.atN, dropT_zero, Tr.headIs] at h
  | .cons s k r, h => by
    rcases cases3 s name with c1 | ⟨c1, c2⟩ | ⟨c1, c2, _⟩
    · rw [atIs_lt c1] at h
      obtain ⟨r', h2⟩ := kid_drop h
      rw [atN_lt c1, kidT_lt c1]
      exact ⟨r', h2⟩
    · have e := names_of_eq c2
      subst e
      rw [atN_ge c1, kidT_eq c1 c2]
      exact ⟨r, by rw [dropT_zero]⟩
    · rw [atIs_ge c1, c2] at h; cases h
theorem drop_lt {t : Tr} {i : Nat} {s : ByteArray} {k r : Tr} (h : t.dropT i = .cons s k r) : i < t.len := by
  rcases Nat.lt_or_ge i t.len with g | g
  · exact g
  · rw [drop_len t i g] at h; cases h

set_option maxHeartbeats 2000000 in
theorem get_any (t : Tr) (ps : List ByteArray) (A Ap : Option Addr) (n c np cp : Nat) (w : World) (ht : Holds w w.heap.size A n t) (hp : SeesV w w.heap.size Ap np (ps.map Value.string)) (ha : AscD t) (hz : t.size ≤ 274877906944) (hps : ps.length ≤ 1000000) :
    Calls Tryz.prog 29 #[.slice A n c, .slice Ap np cp] w (GetP w (getT t ps)) := by
  have hnp : np ≤ 1000000 := by have := hp.len; rw [List.length_map] at this; omega
  have Hnp := Lib.hid (show np = ps.length by have := hp.len; rwa [List.length_map] at this)
  obtain ⟨T, hT⟩ : ∃ T, T = getT t ps := ⟨_, rfl⟩
  rw [← hT]
  have HI0 := Lib.hid (show Holds w w.heap.size A n t ∧ AscD t ∧ t.size ≤ 274877906944 ∧ getT t ps = T from ⟨ht, ha, hz, hT.symm⟩)
  clear ht hT ha hz
  go_enter Tryz.func29, Tryz.ntmps29
  go_wp2_with fail
  go_loopw [0, 12] (fun a i wr => ∃ (k : Nat) (Au : Option Addr) (nu cu : Nat) (u : Tr), k ≤ np ∧ a = .slice Au nu cu ∧ i = .int .i64 k ∧ Hid (Holds wr w.heap.size Au nu u ∧ AscD u ∧ u.size ≤ 274877906944 ∧ getT u (ps.drop k) = T) ∧ Below w.heap.size w wr) (fun _ i _ => np - (intOf i).toNat)
  case atStart => exact ⟨0, A, n, c, t, Nat.zero_le _, rfl, rfl, by rw [List.drop_zero]; exact HI0, Below.refl _ _⟩
  case round =>
    obtain ⟨k, Au, nu, cu, u, hk, rfl, rfl, HI, hbw⟩ := hrel
    have hsz := hbw.size
    by_cases hlt : k < np
    · obtain ⟨bp, op, rfl, hbp, hcp⟩ := hp.str hlt
      obtain ⟨name, hname⟩ : ∃ s, s = ps.getD k ⟨#[]⟩ := ⟨_, rfl⟩
      rw [← hname] at hcp
      have hdrop : ps.drop k = name :: ps.drop (k + 1) := by
        have hl : k < ps.length := by rw [← Hnp.out]; exact hlt
        rw [List.drop_eq_getElem_cons hl, hname, List.getD_eq_getElem?_getD, List.getElem?_eq_getElem hl]
        rfl
      have hcpw := (hbw.cell (p := ⟨bp, op + k, none⟩) hbp).trans hcp
      have hkn : (k : Int) < (np : Int) := by omega
      have hk0 : (0 : Int) ≤ (k : Int) := by omega
      have hul := HI.out.1.len
      have hus := u.len_size
      have hus2 := HI.out.2.2.1
      have hnu : nu ≤ 274877906944 := by omega
      have HF := Lib.hid (find_any u HI.out.2.1.asc Au nu cu w.heap.size name wr HI.out.1 hsz (by omega))
      have hle := atN_le name u
      obtain ⟨i, hi⟩ : ∃ i, i = u.atN name := ⟨_, rfl⟩
      obtain ⟨v, hv⟩ : ∃ v, v = u.atIs name := ⟨_, rfl⟩
      rw [← hi] at HF hle
      rw [← hv] at HF
      have hin : i ≤ nu := by omega
      have Hi := Lib.hid hi
      have Hdrop := Lib.hid hdrop
      have Hlt := Lib.hid hlt
      clear hname hdrop hcp hi hlt hle
      cases v with
      | true =>
        obtain ⟨r, hdr⟩ := kid_drop hv.symm
        rw [← Hi.out] at hdr
        have hilt := drop_lt hdr
        have hin2 : (i : Int) < (nu : Int) := by omega
        have hi0 : (0 : Int) ≤ (i : Int) := by omega
        have hin3 : i < nu := by omega
        have heq : getT (kidT u name) (ps.drop (k + 1)) = T := by
          have := HI.out.2.2.2
          rw [Hdrop.out, getT, if_pos hv.symm] at this
          exact this
        have Heq := Lib.hid heq
        have Hdr := Lib.hid hdr
        clear hv hdr hilt hul hus hus2 heq
        go_wp2_with fail
        refine HF.out.mono ?_
        rintro e w2 ⟨rfl, hb2⟩
        obtain ⟨b, o, s, kt, r', A', n', c', e, hb, hs, hcl, hn', hc', hk', hr, hd, hd2⟩ := (HI.out.1.below hb2).split i hin3
        subst e
        have hd := hd
        rw [Hdr.out] at hd
        injection hd with hd1 hd2 hd3
        subst hd1; subst hd2
        have hkid := Lib.hid (show Holds w2 w.heap.size A' n' (kidT u name) ∧ AscD (kidT u name) ∧ (kidT u name).size ≤ 274877906944 ∧ getT (kidT u name) (ps.drop (k + 1)) = T from ⟨hk', kidT_asc HI.out.2.1, Nat.le_trans (kidT_size u name) HI.out.2.2.1, Heq.out⟩)
        clear hk' hr hd3 hs
        go_wp2_with fail
        go_roundw
        case rel => exact ⟨k + 1, A', n', c', _, Hlt.out, rfl, by go_num, hkid, hbw.trans hb2⟩
        case measure => have := Hlt.out; simp [intOf]; omega
      | false =>
        have heq : (Tr.nil, false) = T := by
          have := HI.out.2.2.2
          rw [Hdrop.out, getT, if_neg (by rw [← hv]; simp)] at this
          exact this
        have Heq := Lib.hid heq
        clear hv hul hus hus2 heq
        go_wp2_with fail
        refine HF.out.mono ?_
        rintro e w2 ⟨rfl, hb2⟩
        go_wp2_with fail
        go_ret2
        exact ⟨none, 0, 0, by rw [← Heq.out]; rfl, Nat.le_refl _, Nat.zero_le _, by rw [← Heq.out]; rfl, hbw.trans hb2⟩
    · obtain rfl : k = np := by omega
      have hnil : ps.drop k = [] := List.drop_eq_nil_of_le (by rw [Hnp.out]; exact Nat.le_refl _)
      have heq : (u, true) = T := by
        have := HI.out.2.2.2
        rw [hnil, getT] at this
        exact this
      have HX := Lib.hid (clone_any u Au nu cu wr (HI.out.1.more hsz) (by have := HI.out.2.2.1; omega))
      have Heq := Lib.hid heq
      clear hnil hlt hp heq
      go_wp2_with fail
      (with_reducible refine HX.out.mono ?_)
      rintro e w5 ⟨A5, c5, rfl, hn5, hm5, ho5, hb5⟩
      go_wp2_with fail
      go_ret2
      exact ⟨A5, nu, c5, by rw [← Heq.out]; rfl, hn5, hm5, by rw [← Heq.out]; exact ho5, hbw.trans (hb5.mono hsz)⟩
end Go.Proofs.YtecnilcfhicfmaaGreatDoor.Pt
