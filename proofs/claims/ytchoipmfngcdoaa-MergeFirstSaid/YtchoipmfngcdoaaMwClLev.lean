/- tree.level: what its answer has room for. Conditions: fewer than 2^40 edges. · tree.clone: its answer's rows are its own, each named by one place alone. Conditions: fewer than 2^39 edges. · tree.clone: its answer in rows of edges of its own, none met twice. Conditions: fewer than 2^39 edges. · A tree in rows of its own: read; one of its edges, with what is around it. No conditions. · copy between rows whose elements have any number of cells; append of zero values that makes a new row. Conditions: what is copied fits. · Cells laid over a row: what stands there then. No conditions. · slices.Insert of one edge into a row of edges of one's own. Conditions: fewer than 2^39 edges; the place is within the row. · slices.Delete of one edge out of a row of edges of one's own. Conditions: fewer than 2^39 edges; the edge is there. · The stack of pairs of trees that Same keeps: pop and push. Conditions: what is popped is there; sizes below 2^40. -/
import Derived.Test.YtchoipmfngcdoaaMwSame
import Derived.Deep.LoopGhost
import Derived.Test.YtchoipmfngcdoaaMwWords
import Derived.Test.YtchoipmfngcdoaaStack
import Derived.Laws.CopyRow
import Derived.Laws.CopyOwn
import Derived.Lib.AppendZerosOnto
import Derived.Deep.RegionLaw
import Derived.Lib.Overlaps
import Derived.Laws.Externs
import Derived.IntWalk
import Derived.Outline
import Derived.Deep.QuietTactic
import Derived.BigQuiet
namespace Go.Proofs.Ytchoipmfngcdoaa.Cl
open Go.RowKit
set_option maxRecDepth 100000

/-- As level_hp, and with the row's room. -/
theorem level_hpc (t : Tr) (A : Option Addr) (n c : Nat) (P : Nat → Prop) (w : World) (h : HoldsP w P A n t) (hP : ∀ b, P b → b < w.heap.size) (hn : n ≤ 1099511627776) :
    Calls Try.prog 92 #[.slice A n c] w fun e w' => ∃ A' c', e = .returned (.slice A' n c') ∧ w.grownBy w' none ∧ n ≤ c' ∧ c' ≤ maxLen ∧ HoldsP w' (fun b => P b ∨ b = w.heap.size) A' n t ∧
      (∀ a, A' = some a → a = ⟨w.heap.size, 0, none⟩ ∧ ∃ cur, w'.heap[w.heap.size]? = some (.cells cur 51 (0, 0)) ∧ cur.size = c' * 2) ∧ (A' = none → c' = 0) := by
  obtain ⟨vs, hl, h1, hc, hA⟩ := h.row
  have hsrc : Src Try.prog 2 24 (.slice A n c) n vs w := by
    rcases Nat.eq_zero_or_pos n with g | g
    · subst g
      have : vs = [] := List.eq_nil_of_length_eq_zero (by rw [hl])
      subst this
      exact src_none w A c
    · obtain ⟨b, o, rfl, _⟩ := hA g
      exact src_edges hl (hc b o rfl) h1
  have hn2 : 0 + n ≤ 1099511627776 := by omega
  have H := Lib.hid h
  have HP := Lib.hid hP
  have Hc := Lib.hid hc
  have HA := Lib.hid hA
  have Hl := Lib.hid hl
  clear h hP hc hA hl
  go_enter Try.func92, Try.ntmps92
  go_wp2_with (at_builtin; refine wpList_append_row rfl (.const (.slice none 0 0)) (.tmp 3) _ _ rfl elem_edge rfl rfl (World.ownsRow_nil w w.heap.size _ _) hsrc hn2 (Nat.le_refl _) ?_; intro A2 c2 w2 ho2 hg2 hat2; simp only [Nat.zero_add, List.nil_append] at ho2; rw [Nat.zero_add])
  go_ret
  have hkeep : ∀ b o, P b → w2.cell? ⟨b, o, none⟩ = w.cell? ⟨b, o, none⟩ := fun b o hb => World.cell?_of_block (hg2.block b (HP.out b hb) (fun e => by cases e))
  rcases ho2.2 with ⟨e1, e2⟩ | ⟨g, cap, cur, e1, hg, hh, hcap, hmx, hsz, htk⟩
  · injection e1 with a1 a2 a3
    subst a1; subst a2; subst a3
    have ht := H.out.len
    cases t with
    | nil => exact ⟨none, 0, rfl, hg2, Nat.le_refl _, by simp [maxLen], rfl, fun a ha => (by cases ha), fun _ => rfl⟩
    | cons s k r => simp [Tr.len] at ht
  · injection e1 with a1 a2 a3
    subst a1; subst a3
    have hgw : g = w.heap.size := by
      rcases hat2 _ rfl with e | e
      · exact e
      · simp [Value.ownBlock] at e
    subst hgw
    refine ⟨_, c2, rfl, hg2, hcap, hmx, ?_, fun a ha => ⟨by injection ha with ha; exact ha.symm, cur, hh, hsz⟩, fun e => by cases e⟩
    have hcp : ∀ j u, vs[j]? = some u → w2.cell? ⟨w.heap.size, 0 + j, none⟩ = some u := by
      intro j u hu
      rw [cell_of_row w2 _ _ cur _ _ hh, Nat.zero_add]
      rw [← htk, List.getElem?_take] at hu
      split at hu
      · simpa using hu
      · cases hu
    rcases Nat.eq_zero_or_pos n with g0 | g0
    · subst g0
      have ht := H.out.len
      cases t with
      | nil => exact rfl
      | cons s k r => simp [Tr.len] at ht
    · obtain ⟨b, o, rfl, hb⟩ := HA.out g0
      refine HoldsP.copy hkeep (fun b hb => .inl hb) H.out (.inr rfl) (fun j hj => ?_)
      have hlt : j < vs.length := by rw [Hl.out]; exact hj
      rw [hcp j _ (List.getElem?_eq_getElem hlt), Hc.out b o rfl j _ (List.getElem?_eq_getElem hlt)]
theorem room_less {w : World} {A : Option Addr} {a0 : Addr} {g c : Nat} (h : ∀ a, A = some a → a = a0 ∧ ∃ cur, w.heap[g]? = some (.cells cur 51 (0, 0)) ∧ cur.size = c * 2) : ∀ a, A = some a → a = a0 ∧ ∃ cur, w.heap[g]? = some (.cells cur 51 (0, 0)) :=
  fun a e => ⟨(h a e).1, (h a e).2.choose, (h a e).2.choose_spec.1⟩
end Go.Proofs.Ytchoipmfngcdoaa.Cl
namespace Go.Proofs.Ytchoipmfngcdoaa.Cl
open Go.RowKit
set_option maxRecDepth 100000

set_option maxHeartbeats 4000000 in
theorem clone_own (t : Tr) (A : Option Addr) (n c : Nat) (w : World) (h : Holds w w.heap.size A n t) (hsz : t.size ≤ 549755813888) :
    Calls Try.prog 77 #[.slice A n c] w fun e w' => ∃ A' c', e = .returned (.slice A' n c') ∧ n ≤ c' ∧ c' ≤ maxLen ∧ HoldsP w' (Pw w' w.heap.size) A' n t ∧ Row w' w.heap.size A' ∧ (∃ G, FamSt w' w.heap.size (A'.map Addr.block) n c' [] G) ∧ (A' = none → c' = 0) ∧ Below w.heap.size w w' := by
  have hnl : n ≤ 549755813888 := by have := h.len; have := t.len_size; omega
  have hP : HoldsP w (Pw w w.heap.size) A n t := (HoldsP.of h).more fun b hb => .inl hb
  have HL := Lib.hid (level_hpc t A n c (Pw w w.heap.size) w hP (fun b hb => hb.lt (Nat.le_refl _)) (by omega))
  clear h
  go_enter Try.func77, Try.ntmps77
  go_wp2_with fail
  (with_reducible refine HL.out.mono ?_)
  rintro e w1 ⟨A1, c1, rfl, hg1, hn1, hm1, hh1, ha1, hz1⟩
  have J0 : JobOK w1 w.heap.size (⟨A1, n, c1⟩, t) := level_ok (Nat.le_refl _) hg1 hh1 (room_less ha1)
  have HJ := Lib.hid J0
  have HG := Lib.hid hg1
  have HA1 := Lib.hid ha1
  have HZ1 := Lib.hid hz1
  clear hh1 ha1 J0 hg1 hz1
  go_wp2_with fail
  obtain ⟨b0, hb0⟩ : ∃ b0, b0 = w.heap.size := ⟨_, rfl⟩
  obtain ⟨g, hg⟩ : ∃ g, g = w1.heap.size + 1 := ⟨_, rfl⟩
  have Hb0 := Lib.hid hb0
  have Hg := Lib.hid hg
  rw [← hb0] at HJ
  rw [← hg]
  go_loopg [] (t.size + 1) (fun k wr => ∃ (X : List (CJob × Tr)) (G : Gh), FamSt wr b0 (A1.map Addr.block) n c1 X G ∧ Row wr b0 A1 ∧ Hid (k = load (X.map Prod.snd)) ∧ ClSt wr b0 g A1 n t X ∧ k ≤ t.size + 1 ∧ Below b0 w wr)
  case atStart =>
    have hsz1 := HG.out.size
    have hkr : ∀ b, IsRow w1 b0 b → ((w1.alloc (Obj.cells #[Value.slice A1 n c1] 24)).alloc (Obj.cells #[Value.slice (some ⟨w1.heap.size, 0, none⟩) 1 1] 153)).heap[b]? = w1.heap[b]? := fun b hb => by
      have hlt := hb.lt
      rw [Below.heap_alloc _ _ _ (by simp; omega), Below.heap_alloc _ _ _ hlt]
    have F0 : FamSt w1 b0 (A1.map Addr.block) n c1 [(⟨A1, n, c1⟩, t)] ⟨fun _ => none, fun _ => 0, fun _ => 0, fun _ => n, fun _ => c1⟩ := by
      refine ⟨⟨fun p hp => ?_, fun _ _ => rfl, fun p i A n c hp hi hc => absurd hi (Nat.not_lt_zero i)⟩, fun p hp d hd => ?_, fun d hd => ?_, fun _ _ => rfl, fun _ _ => rfl⟩
      · rcases hp with hp | hp
        · exact absurd rfl hp
        · cases A1 with
          | none => cases hp
          | some a =>
            obtain ⟨e, cur, h1, h2⟩ := HA1.out a rfl
            subst e
            simp only [Option.map_some, Option.some.injEq] at hp
            subst hp
            exact ⟨by omega, cur, h1, h2⟩
      · simp only [List.mem_cons, List.not_mem_nil, or_false] at hp
        subst hp
        simp only at hd
        subst hd
        exact ⟨.inr rfl, rfl⟩
      · rcases hd with hd | hd
        · exact absurd rfl hd
        · cases A1 with
          | none => cases hd
          | some a =>
            obtain ⟨d', e, h1, h2⟩ := HJ.out.row a rfl
            subst e
            simp only [Option.map_some, Option.some.injEq] at hd
            subst hd
            exact .inl ⟨_, List.mem_cons_self, rfl⟩
    have R0 : Row w1 b0 A1 := HJ.out.row
    have St : ClSt ((w1.alloc (Obj.cells #[Value.slice A1 n c1] 24)).alloc (Obj.cells #[Value.slice (some ⟨w1.heap.size, 0, none⟩) 1 1] 153)) b0 g A1 n t [(⟨A1, n, c1⟩, t)] := by
      have hk : ∀ b, Pw w1 b0 b → ((w1.alloc (Obj.cells #[Value.slice A1 n c1] 24)).alloc (Obj.cells #[Value.slice (some ⟨w1.heap.size, 0, none⟩) 1 1] 153)).heap[b]? = w1.heap[b]? := fun b hb => by
        have hlt := hb.lt (by omega)
        rw [Below.heap_alloc _ _ _ (by simp; omega), Below.heap_alloc _ _ _ hlt]
      refine ⟨⟨by omega, some ⟨w1.heap.size, 0, none⟩, 1, ?_, ?_⟩, HJ.out.holds.step hk, fun p hp => ?_, by simp; omega⟩
      · rw [hg]
        exact (by rw [show w1.heap.size + 1 = (w1.alloc (Obj.cells #[Value.slice A1 n c1] 24)).heap.size by simp]; exact heap_alloc_new _ _)
      · exact (World.ownsRow_lit (base := b0) (e := 24) (size := 1) w1 #[Value.slice A1 n c1] 1 (by omega) (by simp [maxLen]) rfl).alloc _
      · simp only [List.mem_cons, List.not_mem_nil, or_false] at hp
        subst hp
        exact HJ.out.step hk
    have R1 : Row ((w1.alloc (Obj.cells #[Value.slice A1 n c1] 24)).alloc (Obj.cells #[Value.slice (some ⟨w1.heap.size, 0, none⟩) 1 1] 153)) b0 A1 := fun a ha => by
      obtain ⟨d, e, h1, cur, h2⟩ := R0 a ha
      exact ⟨d, e, h1, cur, (hkr d ⟨h1, cur, h2⟩).trans h2⟩
    refine ⟨[(⟨A1, n, c1⟩, t)], _, F0.step hkr, R1, Lib.hid (by simp [load]), St, Nat.le_refl _, ?_⟩
    exact (((Below.refl b0 w).grown HG.out (by omega) (fun k hk => by cases hk)).alloc (by omega) _).alloc (by simp; omega) _
  case round =>
    clear hg hb0
    obtain ⟨X, G, hfm, hrw, Hk, hst, hk, hbw⟩ := hrel
    rcases List.eq_nil_or_concat X with rfl | ⟨X, x, rfl⟩
    · obtain ⟨A2, c2, hbx, _⟩ := hst.stk.row
      have hbox : wr.cell? ⟨g, 0, none⟩ = some (.slice A2 0 c2) := by rw [cell_of_row wr g 0 _ _ _ hbx]; rfl
      clear hbx
      go_wp2_with fail
      go_ret
      exact ⟨A1, c1, rfl, hn1, hm1, by rw [← Hb0.out]; exact hst.whole, by rw [← Hb0.out]; exact hrw, by rw [← Hb0.out]; exact ⟨G, hfm⟩, HZ1.out, by rw [← Hb0.out]; exact hbw⟩
    · obtain ⟨⟨a1, nx, cx⟩, u⟩ := x
      obtain ⟨A2, c2, hbx, _⟩ := hst.stk.row
      have hlen : (List.map Prod.fst (X.concat (⟨a1, nx, cx⟩, u))).length = X.length + 1 := by simp
      rw [hlen] at hbx
      have hload : gk = load (X.map Prod.snd) + (u.size + 1) := by rw [Hk.out, List.concat_eq_append, List.map_append, load_append]; simp [load]
      have hll := load_len (X.map Prod.snd)
      rw [List.length_map] at hll
      have hXl : (X.map Prod.fst).length ≤ 1099511627776 := by rw [List.length_map]; omega
      have HP := Lib.hid (cpop_any b0 g (X.map Prod.fst) ⟨a1, nx, cx⟩ wr (by simpa using hst.stk) hXl)
      obtain ⟨N, hN⟩ : ∃ N, N = X.length := ⟨_, rfl⟩
      rw [← hN] at hbx
      have hN2 : N ≤ 1099511627776 := by rw [hN]; omega
      have hN3 : (0 : Int) < (N : Int) + 1 := by omega
      have hbox : wr.cell? ⟨g, 0, none⟩ = some (.slice A2 (N + 1) c2) := by rw [cell_of_row wr g 0 _ _ _ hbx]; rfl
      have Hld := Lib.hid hload
      clear hbx hlen hN hXl hload hll
      go_wp2_with fail
      (with_reducible refine HP.out.mono ?_)
      rintro e w2 ⟨rfl, hs2, hg2⟩
      obtain ⟨hst2, hj2⟩ := ClSt.pop (by simpa using hst) hs2 hg2
      have hkr : ∀ b, IsRow wr b0 b → w2.heap[b]? = wr.heap[b]? := fun b hb => by
        obtain ⟨h1, cur, h2⟩ := hb
        exact hg2.block b (Array.getElem?_eq_some_iff.1 h2).1 (fun e => by injection e with e; subst e; exact (hst.stk.kind h2).1 rfl)
      have hfi : FamIn w2 b0 (A1.map Addr.block) n c1 X ⟨a1, nx, cx⟩ 0 G := (FamSt.pop (x := (⟨a1, nx, cx⟩, u)) (by simpa using hfm)).step hkr
      have hrw2 : Row w2 b0 A1 := fun a ha => by
        obtain ⟨d, e, h1, cur, h2⟩ := hrw a ha
        exact ⟨d, e, h1, cur, (hkr d ⟨h1, cur, h2⟩).trans h2⟩
      have hbw2 : Below b0 wr w2 := (Below.refl b0 wr).grown hg2 hst.size (fun k hk => by injection hk with hk; have := hst.stk.le; omega)
      have hnx := hj2.holds.len
      simp only at hnx
      have hux := u.len_size
      have hld := Hld.out
      have hnb : nx ≤ 549755813889 := by omega
      have Hnx := Lib.hid hnx
      have Hux := Lib.hid hux
      have hbz := hbw.trans hbw2
      clear hnx hux hld HP hst hs2 hg2 hbox hN2 hN3 hbw hbw2 hkr hfm hrw
      go_wp2_with fail
      go_loopw [17] (fun i wl => ∃ (j : Nat) (X2 : List (CJob × Tr)) (G2 : Gh), FamIn wl b0 (A1.map Addr.block) n c1 X2 ⟨a1, nx, cx⟩ j G2 ∧ Row wl b0 A1 ∧ j ≤ nx ∧ i = .int .i64 j ∧ ClSt wl b0 g A1 n t X2 ∧ JobOK wl b0 (⟨a1, nx, cx⟩, u) ∧ Hid (load (X2.map Prod.snd) + load ((subs u).drop j) + 1 = gk) ∧ Below b0 w wl) (fun i _ => nx - (intOf i).toNat)
      case atStart => exact ⟨0, X, G, hfi, hrw2, Nat.zero_le _, rfl, hst2, hj2, by have := Hld.out; rw [List.drop_zero, load_subs]; exact Lib.hid (by omega), hbz⟩
      case round =>
        clear hst2 hj2 hbz hfi hrw2
        obtain ⟨j, X2, G2, hfi, hrw, hj, rfl, hst, hjb, Hl, hbl⟩ := hrel
        by_cases hlt : j < nx
        · have hjl : j < (subs u).length := by rw [subs_len, ← Hnx.out]; exact hlt
          have hdr := List.drop_eq_getElem_cons hjl
          have hv := List.getElem?_eq_getElem hjl
          obtain ⟨v, hve⟩ : ∃ v, v = (subs u)[j] := ⟨_, rfl⟩
          rw [← hve] at hdr hv
          have hl := Hl.out
          rw [hdr] at hl
          simp only [load] at hl
          have hvl := v.len_size
          obtain ⟨vs, _, _, _, hA⟩ := hjb.holds.row
          obtain ⟨b', o', e', _⟩ := hA (by simp only; omega)
          simp only at e'
          subst e'
          obtain ⟨d, e', hd, cur, hh⟩ := hjb.row _ rfl
          injection e' with e1 e2
          subst e1; subst e2
          obtain ⟨A', n', c', hc, hn', hm', hh'⟩ := hjb.holds.sub hv
          rw [Nat.zero_add] at hc
          have hnv := hh'.len
          have hn40 : n' ≤ 1099511627776 := by omega
          have hfr : ∀ q, wr.frozen? ⟨b', q, none⟩ = false := fun q => by simp [World.frozen?, hh]
          have hjn : (j : Int) < (nx : Int) := by omega
          have hj0 : (0 : Int) ≤ (j : Int) := by omega
          have HL := Lib.hid (level_hpc v A' n' c' (Pw wr b0) wr hh' (fun b hb => hb.lt hst.size) hn40)
          have He : Hid (load (X2.map Prod.snd) + (v.size + 1) + load ((subs u).drop (j + 1)) + 1 = gk) := Lib.hid (by omega)
          have hX2 := load_len (X2.map Prod.snd)
          rw [List.length_map] at hX2
          have hX3 : X2.length ≤ 549755813889 := by omega
          have HX := Lib.hid hX3
          have Hst := Lib.hid hst
          have Hfi := Lib.hid hfi
          have Hrw := Lib.hid hrw
          have Hjb := Lib.hid hjb
          have Hh := Lib.hid hh
          have Hc := Lib.hid hc
          have Hh' := Lib.hid hh'
          clear hv hve hdr hl hvl hnv hX2 hX3 hh' hst hjb hA Hl hh hfi hrw
          go_wp2_with fail
          (with_reducible refine HL.out.mono ?_)
          rintro e w3 ⟨A3, c3, rfl, hg3, hn3, hm3, hh3, ha3, hz3n⟩
          have hsz3 := hg3.size
          have hst := Hst.out
          have hk3 : ∀ b, Pw wr b0 b → w3.heap[b]? = wr.heap[b]? := fun b hb => hg3.block b (hb.lt hst.size) (fun e => by cases e)
          have St3 := hst.grow hg3
          have J3 := Hjb.out.step hk3
          have JN3 : JobOK w3 b0 (⟨A3, n', c3⟩, v) := level_ok hst.size hg3 hh3 (room_less ha3)
          have hdr : w3.heap[b']? = some (.cells cur 51 (0, 0)) := (hk3 b' (.inr ⟨hd, cur, Hh.out⟩)).trans Hh.out
          have hq3 : w3.cell? ⟨b', j * 2 + 1, none⟩ = some (.slice A' n' c') := (World.cell?_of_block (hk3 b' (.inr ⟨hd, cur, Hh.out⟩))).trans Hc.out
          have hz3 := Hh'.out.step hk3
          have St4 := St3.set hdr hq3 hz3 JN3.holds hn3 hm3
          have J4 : JobOK (w3.setCell ⟨b', j * 2 + 1, none⟩ (.slice A3 n' c3)) b0 (⟨some ⟨b', 0, none⟩, nx, cx⟩, u) := ⟨JobOK.set hdr hq3 hz3 JN3.holds hn3 hm3 J3.holds, J3.row.set hdr⟩
          have JN4 : JobOK (w3.setCell ⟨b', j * 2 + 1, none⟩ (.slice A3 n' c3)) b0 (⟨A3, n', c3⟩, v) := ⟨JobOK.set hdr hq3 hz3 JN3.holds hn3 hm3 JN3.holds, JN3.row.set hdr⟩
          have hkr : ∀ b, IsRow wr b0 b → w3.heap[b]? = wr.heap[b]? := fun b hb => hk3 b (.inr hb)
          have F3 := Hfi.out.step hkr
          have F4 : ∃ G4, FamIn (w3.setCell ⟨b', j * 2 + 1, none⟩ (.slice A3 n' c3)) b0 (A1.map Addr.block) n c1 (X2 ++ [(⟨A3, n', c3⟩, v)]) ⟨some ⟨b', 0, none⟩, nx, cx⟩ (j + 1) G4 := by
            cases A3 with
            | none =>
              have h0 : n' = 0 := by
                have hx := JN3.holds
                cases v with
                | nil => exact hx
                | cons s k r => obtain ⟨_, _, e, _⟩ := hx; cases e
              rw [h0, hz3n rfl]
              exact ⟨_, F3.mark (y := (⟨none, 0, 0⟩, v)) rfl hdr hq3 rfl⟩
            | some a =>
              obtain ⟨e, cur3, hc3, hs3⟩ := ha3 a rfl
              subst e
              exact ⟨_, F3.put (y := (⟨some ⟨wr.heap.size, 0, none⟩, n', c3⟩, v)) rfl hdr hq3 ⟨hst.size, cur3, hc3, hs3⟩ (fun ht => by have := (Hfi.out.fam.rows _ ht).lt; omega) rfl rfl⟩
          have R4 : Row (w3.setCell ⟨b', j * 2 + 1, none⟩ (.slice A3 n' c3)) b0 A1 := Row.set hdr (fun a ha => by
            obtain ⟨d, e, h1, cur, h2⟩ := Hrw.out a ha
            exact ⟨d, e, h1, cur, (hkr d ⟨h1, cur, h2⟩).trans h2⟩)
          have hb3 : Below b0 wr w3 := (Below.refl b0 wr).grown hg3 hst.size (fun k hk => by cases hk)
          have hb4 : Below b0 wr (w3.setCell ⟨b', j * 2 + 1, none⟩ (.slice A3 n' c3)) := hb3.setCell hd _
          have hfr3 : w3.frozen? ⟨b', j * 2 + 1, none⟩ = false := by simp [World.frozen?, hdr]
          have hat4 : (w3.setCell ⟨b', j * 2 + 1, none⟩ (.slice A3 n' c3)).cell? ⟨b', j * 2 + 1, none⟩ = some (.slice A3 n' c3) := by
            rw [cell_of_row _ _ _ _ _ _ (heap_setCell_same w3 b' (j * 2 + 1) cur _ _ hdr)]
            have : j * 2 + 1 < cur.size := by
              rw [cell_of_row _ _ _ _ _ _ hdr] at hq3
              exact (Array.getElem?_eq_some_iff.1 hq3).1
            simp [this]
          obtain ⟨w4, hw4⟩ : ∃ W, W = w3.setCell ⟨b', j * 2 + 1, none⟩ (.slice A3 n' c3) := ⟨_, rfl⟩
          rw [← hw4] at St4 J4 JN4 hb4 hat4 F4 R4
          have HF4 := Lib.hid F4
          have HR4 := Lib.hid R4
          have hS4 := Lib.hid St4
          have hJ4 := Lib.hid J4
          have hJN4 := Lib.hid JN4
          have HB4 := Lib.hid hb4
          clear St4 J4 JN4 hb4 hb3 hz3 hz3n JN3 J3 St3 hk3 hst hh3 ha3 hdr hc hfr hg3 hkr F3 F4 R4
          go_wp2_with fail
          rw [← hw4]
          have hz4 : w4.heap.size = w3.heap.size := by rw [hw4]; simp [World.setCell]
          have hsb := hS4.out.size
          have hka : ∀ b, Pw w4 b0 b → (w4.alloc (Obj.cells #[Value.slice A3 n' c3] 24)).heap[b]? = w4.heap[b]? := fun b hb => Below.heap_alloc _ _ b (hb.lt hsb)
          have St5 := hS4.out.alloc (Obj.cells #[Value.slice A3 n' c3] 24)
          have HC := cpush_any b0 g w3.heap.size 0 1 1 (X2.map Prod.fst) [⟨A3, n', c3⟩] (w4.alloc (Obj.cells #[Value.slice A3 n' c3] 24)) St5.stk rfl
            (fun q v hv => by
              match q, hv with
              | 0, hv => rw [cell_of_row _ _ _ _ _ _ (by rw [← hz4]; exact heap_alloc_new _ _)]; simpa [cjobs, CJob.cells] using hv
              | q + 1, hv => simp [cjobs, CJob.cells] at hv)
            (by rw [List.length_map]; have := HX.out; omega) (by simp; omega)
          (with_reducible refine HC.mono ?_)
          rintro e w5 ⟨⟨vv, rfl⟩, hs5, hb5, hg5⟩
          obtain ⟨St6, J6⟩ := St5.push (hJN4.out.step hka) (hJ4.out.step hka) hs5 hb5 (fun k hk hf => (hg5 k hk hf).1)
          have hkr : ∀ b, IsRow w4 b0 b → w5.heap[b]? = w4.heap[b]? := fun b hb => by
            have e1 := Below.heap_alloc w4 (Obj.cells #[Value.slice A3 n' c3] 24) b hb.lt
            obtain ⟨_, cur, h2⟩ := hb
            have h3 := e1.trans h2
            exact (hg5 b (Array.getElem?_eq_some_iff.1 h3).1 (St5.stk.kind h3)).1.trans e1
          obtain ⟨G4, F5⟩ := HF4.out
          have F6 := F5.step hkr
          have R6 : Row w5 b0 A1 := fun a ha => by
            obtain ⟨d, e, h1, cur, h2⟩ := HR4.out a ha
            exact ⟨d, e, h1, cur, (hkr d ⟨h1, cur, h2⟩).trans h2⟩
          have hb6 : Below b0 wr w5 := (HB4.out.alloc (by omega) _).trans hb5
          clear hka St5 HC hs5 hb5 hg5 hw4 hat4 hfr3 hq3 hkr F5
          go_wp2_with fail
          go_roundw
          case rel => exact ⟨j + 1, X2 ++ [(⟨A3, n', c3⟩, v)], G4, F6, R6, by omega, by go_num, St6, J6, by have := He.out; rw [List.map_append, load_append]; simp only [List.map_cons, List.map_nil, load]; exact Lib.hid (by omega), hbl.trans hb6⟩
          case measure => simp [intOf]; omega
        · obtain rfl : j = nx := by omega
          have hnil : (subs u).drop j = [] := List.drop_eq_nil_of_le (by rw [subs_len, ← Hnx.out]; exact Nat.le_refl _)
          have hl := Hl.out
          rw [hnil] at hl
          simp only [load, Nat.add_zero] at hl
          clear hnil hlt
          go_wp2_with fail
          go_roundg (load (X2.map Prod.snd))
          case measure => omega
          case rel => exact ⟨X2, G2, FamIn.end_ hfi, hrw, Lib.hid rfl, hst, by omega, hbl⟩
end Go.Proofs.Ytchoipmfngcdoaa.Cl
namespace Go.Proofs.Ytchoipmfngcdoaa.Cl
open Go.RowKit
set_option maxRecDepth 100000

theorem OwnR.rows {w : World} {base : Nat} : ∀ {t : Tr} {b o : Nat} {bs : List Nat}, OwnR w base b o t bs → ∀ d ∈ bs, IsRow w base d
  | .nil, _, _, _, h, d, hd => by
    have h : _ = [] := h
    subst h; cases hd
  | .cons s k r, b, o, _, ⟨A', n', c', b1, b2, e, _, _, _, _, _, h1, h2⟩, d, hd => by
    subst e
    rcases List.mem_append.1 hd with hd | hd
    · rcases h1 with ⟨_, _, e, _⟩ | ⟨d', b3, _, e, h3, h4⟩
      · subst e; cases hd
      · subst e
        rcases List.mem_cons.1 hd with rfl | hd
        · exact h3.row
        · exact OwnR.rows h4 d hd
    · exact OwnR.rows h2 d hd
theorem OwnL.rows {w : World} {base n c : Nat} {A : Option Addr} {t : Tr} {bs : List Nat} (h : OwnL w base A n c t bs) : ∀ d ∈ bs, IsRow w base d := by
  intro d hd
  rcases h.2 with ⟨_, _, e, _⟩ | ⟨d', b3, _, e, h3, h4⟩
  · subst e; cases hd
  · subst e
    rcases List.mem_cons.1 hd with rfl | hd
    · exact h3.row
    · exact OwnR.rows h4 d hd
/-- Kept where its rows are. -/
theorem OwnR.keep {w w' : World} {base : Nat} : ∀ {t : Tr} {b o : Nat} {bs : List Nat}, OwnR w base b o t bs → w'.heap[b]? = w.heap[b]? → (∀ d ∈ bs, w'.heap[d]? = w.heap[d]?) → OwnR w' base b o t bs
  | .nil, _, _, _, h, _, _ => h
  | .cons s k r, b, o, _, ⟨A', n', c', b1, b2, e, hs, hc, hn, hm, hl, h1, h2⟩, hb, hk => by
    subst e
    refine ⟨A', n', c', b1, b2, rfl, (World.cell?_of_block hb).trans hs, (World.cell?_of_block hb).trans hc, hn, hm, hl, ?_, OwnR.keep h2 hb (fun d hd => hk d (List.mem_append.2 (.inr hd)))⟩
    rcases h1 with h1 | ⟨d', b3, e1, e, h3, h4⟩
    · exact .inl h1
    · subst e
      have hd' := hk d' (by simp)
      refine .inr ⟨d', b3, e1, rfl, ?_, OwnR.keep h4 hd' (fun d hd => hk d (by simp [hd]))⟩
      exact h3.step hd'
theorem OwnL.keep {w w' : World} {base n c : Nat} {A : Option Addr} {t : Tr} {bs : List Nat} (h : OwnL w base A n c t bs) (hk : ∀ d ∈ bs, w'.heap[d]? = w.heap[d]?) : OwnL w' base A n c t bs := by
  refine ⟨h.1, ?_⟩
  rcases h.2 with h1 | ⟨d', b3, e1, e, h3, h4⟩
  · exact .inl h1
  · subst e
    have hd' := hk d' (by simp)
    refine .inr ⟨d', b3, e1, rfl, ?_, OwnR.keep h4 hd' (fun d hd => hk d (by simp [hd]))⟩
    exact h3.step hd'

theorem clone_rows (t : Tr) (A : Option Addr) (n c : Nat) (w : World) (h : Holds w w.heap.size A n t) (hsz : t.size ≤ 549755813888) :
    Calls Try.prog 77 #[.slice A n c] w fun e w' => ∃ A' c' bs, e = .returned (.slice A' n c') ∧ n ≤ c' ∧ c' ≤ maxLen ∧ OwnL w' w.heap.size A' n c' t bs ∧ bs.Nodup ∧ Below w.heap.size w w' := by
  refine (clone_own t A n c w h hsz).mono ?_
  rintro e w' ⟨A', c', rfl, hn, hm, hh, hr, ⟨G, hf⟩, hz, hb⟩
  have hc : ∀ d, Tre G (A'.map Addr.block) d → G.Ln d ≤ G.J d := fun d hd => by
    rcases hf.comp d hd with ⟨_, hp, _⟩ | h1
    · cases hp
    · exact h1
  cases A' with
  | none =>
    have ht : t = .nil := by
      cases t with
      | nil => rfl
      | cons s k r => obtain ⟨_, _, e, _⟩ := hh; cases e
    subst ht
    have h0 : n = 0 := hh
    exact ⟨none, c', [], rfl, hn, hm, ⟨h0, .inl ⟨rfl, hz rfl, rfl, rfl⟩⟩, List.nodup_nil, hb⟩
  | some a =>
    obtain ⟨d, e, hrow⟩ := hr a rfl
    subst e
    have hd : Tre G (Option.map Addr.block (some ⟨d, 0, none⟩)) d := .inr rfl
    obtain ⟨bs, h1, h2, h3⟩ := hf.fam.own hc (p := d) (i := 0) (m := n) hd (by simpa using hh) (by rw [hf.ln d rfl]; omega)
    refine ⟨_, c', d :: bs, rfl, hn, hm, ⟨hh.len, .inr ⟨d, bs, rfl, rfl, by have := hf.fam.caps d hd; rw [hf.cp d rfl] at this; exact this, by simpa using h1⟩⟩, ?_, hb⟩
    rw [List.nodup_cons]
    exact ⟨fun hm => by have := (h3 d hm).dep; omega, h2⟩
end Go.Proofs.Ytchoipmfngcdoaa.Cl
namespace Go.Proofs.Ytchoipmfngcdoaa.Cl
open Go.RowKit
set_option maxRecDepth 100000

theorem OwnR.holds {w : World} {base B : Nat} : ∀ {t : Tr} {b o : Nat} {bs : List Nat}, OwnR w base b o t bs → b < B → (∀ d ∈ bs, d < B) → Holds w B (some ⟨b, o, none⟩) t.len t
  | .nil, _, _, _, _, _, _ => rfl
  | .cons s k r, b, o, _, ⟨A', n', c', b1, b2, e, hs, hc, hn, hm, hl, h1, h2⟩, hb, hB => by
    subst e
    refine ⟨b, o, rfl, hb, hs, ⟨A', n', c', hc, hn, hm, ?_⟩, r.len, rfl, OwnR.holds h2 hb (fun d hd => hB d (List.mem_append.2 (.inr hd)))⟩
    rcases h1 with ⟨_, _, _, e⟩ | ⟨d', b3, e1, e, h3, h4⟩
    · subst e
      exact hl
    · subst e; subst e1
      rw [hl]
      exact OwnR.holds h4 (hB d' (by simp)) (fun d hd => hB d (by simp [hd]))
theorem OwnL.holds {w : World} {base n c B : Nat} {A : Option Addr} {t : Tr} {bs : List Nat} (h : OwnL w base A n c t bs) (hB : ∀ d ∈ bs, d < B) : Holds w B A n t := by
  obtain ⟨hl, h1⟩ := h
  rcases h1 with ⟨_, _, _, e⟩ | ⟨d', b3, e1, e, h3, h4⟩
  · subst e
    exact hl
  · subst e; subst e1
    rw [hl]
    exact OwnR.holds h4 (hB d' (by simp)) (fun d hd => hB d (by simp [hd]))

/-- As OwnR.keep, its own row cell by cell. -/
theorem OwnR.keepc {w w' : World} {base : Nat} : ∀ {t : Tr} {b o : Nat} {bs : List Nat}, OwnR w base b o t bs → (∀ q, o ≤ q → w'.cell? ⟨b, q, none⟩ = w.cell? ⟨b, q, none⟩) → (∀ d ∈ bs, w'.heap[d]? = w.heap[d]?) → OwnR w' base b o t bs
  | .nil, _, _, _, h, _, _ => h
  | .cons s k r, b, o, _, ⟨A', n', c', b1, b2, e, hs, hc, hn, hm, hl, h1, h2⟩, hb, hk => by
    subst e
    refine ⟨A', n', c', b1, b2, rfl, (hb o (Nat.le_refl _)).trans hs, (hb (o + 1) (by omega)).trans hc, hn, hm, hl, ?_, OwnR.keepc h2 (fun q hq => hb q (by omega)) (fun d hd => hk d (List.mem_append.2 (.inr hd)))⟩
    rcases h1 with h1 | ⟨d', b3, e1, e, h3, h4⟩
    · exact .inl h1
    · subst e
      have hd' := hk d' (by simp)
      refine .inr ⟨d', b3, e1, rfl, ?_, OwnR.keep h4 hd' (fun d hd => hk d (by simp [hd]))⟩
      exact h3.step hd'

/-- Another tree below its i-th edge. -/
def setT : Tr → Nat → Tr → Tr
  | .nil, _, _ => .nil
  | .cons s _ r, 0, x => .cons s x r
  | .cons s k r, i + 1, x => .cons s k (setT r i x)
theorem setT_len : ∀ (t : Tr) (i : Nat) (x : Tr), (setT t i x).len = t.len
  | .nil, _, _ => rfl
  | .cons _ _ _, 0, _ => rfl
  | .cons _ _ r, i + 1, x => by simp only [setT, Tr.len, setT_len r i x]

/-- Its i-th edge; and the whole again, whatever is put there. -/
theorem OwnR.at_ {w : World} {base : Nat} : ∀ {t : Tr} {b o i : Nat} {bs : List Nat} {s : ByteArray} {k r : Tr}, OwnR w base b o t bs → t.dropT i = .cons s k r →
    ∃ A' n' c' x b1 y, bs = x ++ b1 ++ y ∧ w.cell? ⟨b, o + i * 2, none⟩ = some (.string s) ∧ w.cell? ⟨b, o + i * 2 + 1, none⟩ = some (.slice A' n' c') ∧ n' ≤ c' ∧ c' ≤ maxLen ∧ OwnL w base A' n' c' k b1 ∧
      ∀ (w' : World) (A2 : Option Addr) (n2 c2 : Nat) (k2 : Tr) (b2 : List Nat), w'.cell? ⟨b, o + i * 2 + 1, none⟩ = some (.slice A2 n2 c2) → n2 ≤ c2 → c2 ≤ maxLen → OwnL w' base A2 n2 c2 k2 b2 →
        (∀ q, q ≠ o + i * 2 + 1 → w'.cell? ⟨b, q, none⟩ = w.cell? ⟨b, q, none⟩) → (∀ d ∈ x ++ y, w'.heap[d]? = w.heap[d]?) → OwnR w' base b o (setT t i k2) (x ++ b2 ++ y)
  | .nil, _, _, i, _, _, _, _, _, hd => by cases i <;> simp [Tr.dropT] at hd
  | .cons s0 k0 r0, b, o, 0, _, s, k, r, ⟨A', n', c', b1, b2, e, hs, hc, hn, hm, hl, h1, h2⟩, hd => by
    rw [dropT_zero] at hd
    injection hd with d1 d2 d3
    subst d1; subst d2; subst d3
    subst e
    refine ⟨A', n', c', [], b1, b2, rfl, by simpa using hs, by simpa using hc, hn, hm, ⟨hl, ?_⟩, ?_⟩
    · rcases h1 with ⟨a1, a2, a3, a4⟩ | h1
      · exact .inl ⟨a1, a2, a3, a4⟩
      · exact .inr h1
    · intro w' A2 n2 c2 k2 b3 hc2 hn2 hm2 ho hk hx
      simp only [Nat.zero_mul, Nat.add_zero] at hc2 hk
      refine ⟨A2, n2, c2, b3, b2, rfl, (hk o (by omega)).trans hs, hc2, hn2, hm2, ho.1, ?_, OwnR.keepc h2 (fun q hq => hk q (by omega)) (fun d hd => hx d (by simpa using hd))⟩
      exact ho.2
  | .cons s0 k0 r0, b, o, i + 1, _, s, k, r, ⟨A', n', c', b1, b2, e, hs, hc, hn, hm, hl, h1, h2⟩, hd => by
    subst e
    simp only [Tr.dropT] at hd
    obtain ⟨A1, n1, c1, x, b3, y, e, q1, q2, q3, q4, q5, q6⟩ := OwnR.at_ h2 hd
    subst e
    have ea : o + 2 + i * 2 = o + (i + 1) * 2 := by omega
    rw [ea] at q1 q2 q6
    refine ⟨A1, n1, c1, b1 ++ x, b3, y, by simp, q1, q2, q3, q4, q5, ?_⟩
    intro w' A2 n2 c2 k2 b4 hc2 hn2 hm2 ho hk hx
    have h3 := q6 w' A2 n2 c2 k2 b4 hc2 hn2 hm2 ho hk (fun d hd => hx d (by
      rcases List.mem_append.1 hd with hd | hd
      · simp [hd]
      · simp [hd]))
    refine ⟨A', n', c', b1, x ++ b4 ++ y, by simp, (hk o (by omega)).trans hs, (hk (o + 1) (by omega)).trans hc, hn, hm, hl, ?_, h3⟩
    rcases h1 with h1 | ⟨d', b5, e1, e, h4, h5⟩
    · exact .inl h1
    · subst e
      have hd' := hx d' (by simp)
      refine .inr ⟨d', b5, e1, rfl, ?_, OwnR.keep h5 hd' (fun d hd => hx d (by simp [hd]))⟩
      exact h4.step hd'
end Go.Proofs.Ytchoipmfngcdoaa.Cl
namespace Go.Proofs.Ytchoipmfngcdoaa.Cl
open Go.RowKit
set_option maxRecDepth 100000

theorem run_copy_k {P : Program} (w : World) (dT sT ty elem : TypeId) (size g o dLen dCap : Nat) (a : Addr) (sLen sCap k : Nat) (cur : Array Value) (t : TypeId) (cs : List Value)
    (hu : P.underlying dT = some (.slice elem)) (hs : (P.info? elem).map (·.size) = some size) (hg : w.heap[g]? = some (.cells cur t (0, 0))) (hk : k = Nat.min sLen dLen) (hn : cs.length = k * size)
    (hsrc : ∀ j v, cs[j]? = some v → w.cell? (a.add j) = some v) (hfit : o + cs.length ≤ cur.size) (h1 : ∀ v ∈ cs, v.oneCell' = true) :
    (Builtin.copy_ #[dT, sT] ty #[.slice (some ⟨g, o, none⟩) dLen dCap, .slice (some a) sLen sCap]).run P w = .ok (goInt k) (w.setRow g (splice cur.toList o cs).toArray) := by
  have e1 := run_loadCells_list (P := P) w a cs hsrc
  have e2 := run_storeCells_at P g o t cs 0 cur w hg (by simpa using hfit) h1
  obtain ⟨i, hi, hz⟩ := Option.map_eq_some_iff.1 hs
  subst hz
  rw [hn] at e1
  simp only [Nat.add_zero, List.append_assoc] at e2
  rw [splice]
  simp [Builtin.copy_, run_underlying hu, Builtin.lenOf, Builtin.firstCells, sizeOf, typeInfo, hi, ← hk, e1, e2]

theorem grown_setRow (w : World) (g : Nat) (cs : Array Value) : w.grownBy (w.setRow g cs) (some g) :=
  ⟨rfl, rfl, rfl, by simp [World.setRow], fun k _ hk => setRow_other w g k cs (fun e => hk (by rw [e]))⟩

section
variable {P : Program} {w : World} {ops : Array Oper} {o : Oper} {a : Act} {Q : Exit → Act → World → Prop}
theorem wpList_copy_k {rest : List Oper} (hgd : o.guard = none) (d s : Operand) (dT sT : TypeId) (hop : o.op = .call { callee := .builtin .copy, args := #[d, s], argTypes := #[dT, sT] }) (elem : TypeId) (size g off dLen dCap : Nat) (ad : Addr) (sLen sCap k : Nat) (cur : Array Value) (t : TypeId) (cs : List Value)
    (hu : P.underlying dT = some (.slice elem)) (hsz : (P.info? elem).map (·.size) = some size) (hd : a.eval d = .slice (some ⟨g, off, none⟩) dLen dCap) (hs : a.eval s = .slice (some ad) sLen sCap)
    (hg : w.heap[g]? = some (.cells cur t (0, 0))) (hk : k = Nat.min sLen dLen) (hn : cs.length = k * size) (hsrc : ∀ j v, cs[j]? = some v → w.cell? (ad.add j) = some v) (hfit : off + cs.length ≤ cur.size) (h1 : ∀ v ∈ cs, v.oneCell' = true)
    (h : ∀ w', Hid (w'.heap[g]? = some (.cells (splice cur.toList off cs).toArray t (0, 0))) → w.grownBy w' (some g) → wpList P ops Q rest (a.put o.dst (goInt k)) w') : wpList P ops Q (o :: rest) a w := by
  refine wpList_plain hgd fun K hK => ?_
  have hr := run_copy_k (P := P) w dT sT o.type elem size g off dLen dCap ad sLen sCap k cur t cs hu hsz hg hk hn hsrc hfit h1
  unfold Oper.wp
  simp [execOp, hop, resolve, invoke, builtin, hd, hs, hr, Result.andThen]
  exact hK _ _ (h _ (Lib.hid (setRow_heap w g _ _ t _ hg)) (grown_setRow w g _))
theorem step_copy_k {K : Act → World → Prop} {E : Prop} (hgd : o.guard = none) (d s : Operand) (dT sT : TypeId) (hop : o.op = .call { callee := .builtin .copy, args := #[d, s], argTypes := #[dT, sT] }) (elem : TypeId) (size g off dLen dCap : Nat) (ad : Addr) (sLen sCap k : Nat) (cur : Array Value) (t : TypeId) (cs : List Value)
    (hu : P.underlying dT = some (.slice elem)) (hsz : (P.info? elem).map (·.size) = some size) (hd : a.eval d = .slice (some ⟨g, off, none⟩) dLen dCap) (hs : a.eval s = .slice (some ad) sLen sCap)
    (hg : w.heap[g]? = some (.cells cur t (0, 0))) (hk : k = Nat.min sLen dLen) (hn : cs.length = k * size) (hsrc : ∀ j v, cs[j]? = some v → w.cell? (ad.add j) = some v) (hfit : off + cs.length ≤ cur.size) (h1 : ∀ v ∈ cs, v.oneCell' = true)
    (h : ∀ w', Hid (w'.heap[g]? = some (.cells (splice cur.toList off cs).toArray t (0, 0))) → w.grownBy w' (some g) → K (a.put o.dst (goInt k)) w') : if Region.wanted o (yielded ops a.tmps) = true then Oper.wp P o a w K Q else E := by
  have hr := run_copy_k (P := P) w dT sT o.type elem size g off dLen dCap ad sLen sCap k cur t cs hu hsz hg hk hn hsrc hfit h1
  rw [if_pos (by simp [Region.wanted, hgd])]
  unfold Oper.wp
  simp [execOp, hop, resolve, invoke, builtin, hd, hs, hr, Result.andThen]
  exact h _ (Lib.hid (setRow_heap w g _ _ t _ hg)) (grown_setRow w g _)
/-- append of k zero values where there is no room for them: a new row. -/
theorem wpList_append_zeros {rest : List Oper} (hgd : o.guard = none) (s x : Operand) (t tn : TypeId) (hop : o.op = .call { callee := .builtin .append, args := #[s, x], argTypes := #[t, tn] }) {size bytes n c k m : Nat} {A : Option Addr} {e : TypeId} {z : Value} {kq kn : IntKind} {olds : List Value}
    (he : Elem P t e z size bytes) (htn : P.underlying tn = some (.int kn)) (hs : a.eval s = .slice A n c) (hx : a.eval x = .int kq (k : Int)) (hk : 0 < k) (hm : n + k = m) (hsz : 0 < size) (hg : c < n + k) (h40 : n + k ≤ 1099511627776)
    (hold : (Builtin.firstCells size n (.slice A n c)).run P w.drew = .ok olds.toArray w.drew) (hol : olds.length = n * size)
    (h : ∀ w' c' (cur : Array Value), Hid (w'.heap[w.heap.size]? = some (.cells cur e (0, 0)) ∧ cur.size = c' * size ∧ cur.toList.take (n * size) = olds) → m ≤ c' → c' ≤ maxLen → w.grownBy w' none → w'.heap.size = w.heap.size + 1 → wpList P ops Q rest (a.put o.dst (.slice (some ⟨w.heap.size, 0, none⟩) m c')) w') :
    wpList P ops Q (o :: rest) a w := by
  subst hm
  obtain ⟨i, hi, hz, hsi, hb⟩ := info_parts he.info
  have hbb : (n + k) * bytes ≤ 1099511627776 * 64 := Nat.mul_le_mul h40 he.small
  have hkb : k * bytes ≤ 1099511627776 * 64 := Nat.mul_le_mul (by omega) he.small
  have hr := Lib.run_append_grow_zeros w t tn o.type e i z kq kn he.slice htn hi hz A n c olds (by rw [hsi]; exact hold) k hk (by rw [hsi]; exact hsz) hg (by omega) (by rw [hb]; omega) (by rw [hb]; exact growslice_fits hg (by omega))
  have hge := grownCap_ge w (n + k) c e
  have hcm := grownCap_le_maxLen w (n + k) c e (by simp only [maxLen]; omega)
  refine Lib.wpList_append_run w hgd s x _ _ hop _ _ hs hx _ _ hr (h _ _ _ (Lib.hid ⟨heap_alloc_new w.drew _, ?_, ?_⟩) hge hcm ⟨rfl, rfl, rfl, by simp, fun q hq _ => heap_alloc_old w.drew _ hq⟩ (by simp))
  · have hzs := he.cells
    simp only [Array.size_append, List.size_toArray, size_zeroCells, hzs, hol]
    rw [← Nat.add_mul, ← Nat.add_mul]
    congr 1
    omega
  · simp only [Array.toList_append, List.append_assoc]
    rw [List.take_append_of_le_length (by simp [hol]), List.take_of_length_le (by simp [hol])]
end
end Go.Proofs.Ytchoipmfngcdoaa.Cl
namespace Go.Proofs.Ytchoipmfngcdoaa.Cl
open Go.RowKit

theorem ins_b {α : Type} (cur p x d : List α) (i : Nat) (hp : cur.take i = p) (hi : p.length = i) (_ : i + x.length + d.length ≤ cur.length) :
    (splice (splice cur i x) (i + x.length) d).take (i + x.length + d.length) = p ++ (x ++ d) := by
  unfold splice
  rw [hp]
  have e1 : (p ++ (x ++ cur.drop (i + x.length))).take (i + x.length) = p ++ x := by
    rw [← List.append_assoc, List.take_append_of_le_length (by simp [hi]), List.take_of_length_le (by simp [hi])]
  rw [e1, ← List.append_assoc (p ++ x) d, List.take_append_of_le_length (by simp [hi]; omega), List.take_of_length_le (by simp [hi]; omega)]
  simp
theorem ins_c {α : Type} (cur p x d : List α) (i : Nat) (hp : cur.take i = p) (hi : p.length = i) (hl : i + x.length + d.length ≤ cur.length) :
    (splice (splice cur (i + x.length) d) i x).take (i + x.length + d.length) = p ++ (x ++ d) := by
  unfold splice
  have e1 : (cur.take (i + x.length) ++ (d ++ cur.drop (i + x.length + d.length))).take i = p := by
    rw [List.take_append_of_le_length (by rw [List.length_take]; omega), List.take_take, Nat.min_eq_left (by omega), hp]
  have e2 : (cur.take (i + x.length) ++ (d ++ cur.drop (i + x.length + d.length))).drop (i + x.length) = d ++ cur.drop (i + x.length + d.length) := by
    rw [List.drop_append_of_le_length (by rw [List.length_take]; omega), List.drop_of_length_le (by rw [List.length_take]; omega), List.nil_append]
  rw [e1, e2, ← List.append_assoc x d, ← List.append_assoc p, List.take_append_of_le_length (by simp [hi]; omega), List.take_of_length_le (by simp [hi]; omega)]
theorem splice_size {α : Type} (cur cs : List α) (o n : Nat) (h : o + cs.length ≤ cur.length) (hn : cur.length = n) : (splice cur o cs).toArray.size = n := by
  rw [List.size_toArray, length_splice cur o cs h, hn]
end Go.Proofs.Ytchoipmfngcdoaa.Cl
namespace Go.Proofs.Ytchoipmfngcdoaa.Cl
open Go.RowKit
set_option maxRecDepth 100000

theorem info_edge : (Try.prog.info? 51).map (·.size) = some 2 := by
  have := elem_edge.info
  obtain ⟨i, hi, hz, hs, hb⟩ := info_parts this
  rw [hi]; simp [hs]
theorem size_edge (w : World) : (Go.sizeOf 51).run Try.prog w = .ok 2 w := by
  obtain ⟨i, hi, hz, hs, hb⟩ := info_parts elem_edge.info
  simp [Go.sizeOf, typeInfo, hi, hs]

theorem grown_undrew {W w4 : World} {row : Option Nat} (h : W.drew.grownBy w4 row) : W.grownBy w4 row := ⟨h.os, h.tape, h.output, h.size, h.block⟩

/-- A row of edges with one more. -/
def InsP (w : World) (base : Nat) (A : Option Addr) (n c : Nat) (ws : List Value) (e : Ending) (w' : World) : Prop :=
  ∃ A' c', e = .returned (.slice A' (n + 1) c') ∧ w'.ownsRow base 51 2 (.slice A' (n + 1) c') (n + 1) ws ∧ w.grownBy w' (Value.slice A n c).ownBlock ∧ (∀ a, A' = some a → w.heap.size ≤ a.block ∨ some a.block = (Value.slice A n c).ownBlock)

end Go.Proofs.Ytchoipmfngcdoaa.Cl
namespace Go.Proofs.Ytchoipmfngcdoaa.Cl
open Go.RowKit
set_option maxRecDepth 100000

theorem run_clear_edge (w : World) (ty : TypeId) (g o c : Nat) (cur : Array Value) (t : TypeId) (hg : w.heap[g]? = some (.cells cur t (0, 0))) (hfit : o + 2 ≤ cur.size) :
    (Builtin.clear_ #[24] ty #[.slice (some ⟨g, o, none⟩) 1 c]).run Try.prog w = .ok (.tuple #[]) (w.setRow g (splice cur.toList o [.string ⟨#[]⟩, .slice none 0 0]).toArray) := by
  obtain ⟨i, hi, hz, hs, hb⟩ := info_parts elem_edge.info
  have hv : ∀ w, (zeroValue 51).run Try.prog w = .ok (.agg #[.string ⟨#[]⟩, .slice none 0 0]) w := fun w => by simp [zeroValue, typeInfo, hi, hz]
  have hst := run_storeCells_at Try.prog g o t [.string ⟨#[]⟩, .slice none 0 0] 0 cur w hg (by simpa using hfit) (by intro v hv'; simp at hv'; rcases hv' with rfl | rfl <;> rfl)
  simp only [Nat.add_zero, List.append_assoc] at hst
  have hzc : (Builtin.zeroCells (Value.agg #[.string ⟨#[]⟩, .slice none 0 0]).cells 1).toList = [.string ⟨#[]⟩, .slice none 0 0] := by kernel_rfl
  rw [splice]
  simp [Builtin.clear_, run_underlying Try.underlying24, hv, hzc, hst]

/-- A row of edges with one less. -/
def DelP (w : World) (base g k c : Nat) (ws : List Value) (e : Ending) (w' : World) : Prop :=
  e = .returned (.slice (some ⟨g, 0, none⟩) k c) ∧ w'.ownsRow base 51 2 (.slice (some ⟨g, 0, none⟩) k c) k ws ∧ w.grownBy w' (some g)

theorem del_row {α : Type} (cur p d z : List α) (i : Nat) (hp : cur.take i = p) (hi : p.length = i) :
    (splice (splice cur i d) (i + d.length) z).take (i + d.length) = p ++ d := by
  unfold splice
  rw [hp]
  have e1 : (p ++ (d ++ cur.drop (i + d.length))).take (i + d.length) = p ++ d := by
    rw [← List.append_assoc, List.take_append_of_le_length (by simp [hi]), List.take_of_length_le (by simp [hi])]
  rw [e1, List.take_append_of_le_length (by simp [hi]), List.take_of_length_le (by simp [hi])]

end Go.Proofs.Ytchoipmfngcdoaa.Cl
namespace Go.Proofs.Ytchoipmfngcdoaa
open Go.RowKit
set_option maxRecDepth 100000

/-- A pair still to be compared: two slices of edges. -/
structure PJob where
  a1 : Option Addr
  n1 : Nat
  c1 : Nat
  a2 : Option Addr
  n2 : Nat
  c2 : Nat
def PJob.cells (x : PJob) : List Value := [.slice x.a1 x.n1 x.c1, .slice x.a2 x.n2 x.c2]
def pjobs (L : List PJob) : List Value := L.flatMap PJob.cells
theorem pjobs_length (L : List PJob) : (pjobs L).length = L.length * 2 := by
  induction L with
  | nil => rfl
  | cons x l ih => simp only [pjobs, List.flatMap_cons, List.length_append, List.length_cons] at ih ⊢; rw [ih]; simp [PJob.cells]; omega
theorem pjobs_append (L M : List PJob) : pjobs (L ++ M) = pjobs L ++ pjobs M := by simp [pjobs]

structure PStk (w : World) (base g : Nat) (L : List PJob) : Prop where
  le : base ≤ g
  row : ∃ A c, w.heap[g]? = some (.cells #[.slice A L.length c] 121 (0, 0)) ∧ w.ownsRow base 119 2 (.slice A L.length c) L.length (pjobs L)

theorem PStk.grow {w w' : World} {base g : Nat} {L : List PJob} (h : PStk w base g L) (hk : ∀ k, k < w.heap.size → w'.heap[k]? = w.heap[k]?) : PStk w' base g L := by
  obtain ⟨A, c, hb, hr1, hr⟩ := h.row
  have hs : ∀ (k : Nat) (o : Obj), w.heap[k]? = some o → w'.heap[k]? = some o := fun k o ho => (hk k (Array.getElem?_eq_some_iff.1 ho).1).trans ho
  refine ⟨h.le, A, c, hs _ _ hb, hr1, ?_⟩
  rcases hr with e | ⟨g1, cap, cur, e, hg, hh, rest⟩
  · exact .inl e
  · exact .inr ⟨g1, cap, cur, e, hg, hs _ _ hh, rest⟩
theorem PStk.alloc {w : World} {base g : Nat} {L : List PJob} (h : PStk w base g L) (o : Obj) : PStk (w.alloc o) base g L := h.grow fun k hk => Below.heap_alloc w o k hk
theorem PStk.drewN {w : World} {base g : Nat} {L : List PJob} (h : PStk w base g L) (q : Nat) : PStk (w.drewN q) base g L := h.grow fun _ _ => rfl

/-- Block k is none of the stack's: not its box, not its row. -/
def PFar (w : World) (g k : Nat) : Prop := k ≠ g ∧ ∀ A n c, w.heap[g]? = some (.cells #[.slice A n c] 121 (0, 0)) → (Value.slice A n c).ownBlock ≠ some k
theorem PStk.lt {w : World} {base g : Nat} {L : List PJob} (h : PStk w base g L) : g < w.heap.size := by
  obtain ⟨A, c, hb, _⟩ := h.row
  exact (Array.getElem?_eq_some_iff.1 hb).1
theorem PStk.far {w : World} {base g k : Nat} {L : List PJob} (h : PStk w base g L) (hk : w.heap.size ≤ k) : PFar w g k := by
  have hl := h.lt
  obtain ⟨A, c, hb, hrow⟩ := h.row
  refine ⟨by omega, fun A' n' c' he e => ?_⟩
  rw [hb] at he
  injection he with he
  injection he with he _ _
  have he := congrArg Array.toList he
  simp only [List.cons.injEq, Value.slice.injEq, and_true] at he
  obtain ⟨rfl, rfl, rfl⟩ := he
  have := (hrow.lt k e).2
  omega
theorem PFar.grow {w w' : World} {g k : Nat} (h : PFar w g k) (hg : g < w.heap.size) (hk : ∀ k, k < w.heap.size → w'.heap[k]? = w.heap[k]?) : PFar w' g k :=
  ⟨h.1, fun A n c he => h.2 A n c ((hk g hg).symm.trans he)⟩

set_option maxHeartbeats 1000000 in
theorem ppop_any (base g : Nat) (L : List PJob) (x : PJob) (w : World) (h : PStk w base g (L ++ [x])) (hL : L.length ≤ 1099511627776) :
    Calls Try.prog 62 #[.pointer (some ⟨g, 0, none⟩)] w fun e w' =>
      e = .returned (.agg #[.slice x.a1 x.n1 x.c1, .slice x.a2 x.n2 x.c2]) ∧ PStk w' base g L ∧ w.grownBy w' (some g) := by
  obtain ⟨A, c, hb, hrow⟩ := h.row
  have hrow2 := hrow
  obtain ⟨hr1, hr⟩ := hrow
  rcases hr with ⟨e, e2⟩ | ⟨g1, cap, cur, e, hg, hh, hcap, hmx, hsz, htk⟩
  · simp at e2
  injection e with e1 e2 e3
  subst e1; subst e3
  have hlen : (L ++ [x]).length = L.length + 1 := by simp
  rw [hlen] at hb hcap htk
  have hcell : ∀ j v, (pjobs (L ++ [x]))[j]? = some v → w.cell? ⟨g1, j, none⟩ = some v := by
    intro j v hv
    rw [cell_of_row w g1 j cur _ _ hh]
    rw [← htk, List.getElem?_take] at hv
    split at hv
    · simpa using hv
    · cases hv
  have hc0 : w.cell? ⟨g1, L.length * 2, none⟩ = some (.slice x.a1 x.n1 x.c1) := hcell _ _ (by rw [pjobs_append, List.getElem?_append_right (by rw [pjobs_length]; exact Nat.le_refl _), pjobs_length, Nat.sub_self]; rfl)
  have hc1 : w.cell? ⟨g1, L.length * 2 + 1, none⟩ = some (.slice x.a2 x.n2 x.c2) := hcell _ _ (by rw [pjobs_append, List.getElem?_append_right (by rw [pjobs_length]; omega), pjobs_length, Nat.add_sub_cancel_left]; rfl)
  have hbox : w.cell? ⟨g, 0, none⟩ = some (.slice (some ⟨g1, 0, none⟩) (L.length + 1) c) := by rw [cell_of_row w g 0 _ _ _ hb]; rfl
  have hfr : w.frozen? ⟨g, 0, none⟩ = false := by simp [World.frozen?, hb]
  obtain ⟨k, hk⟩ : ∃ k, k = L.length := ⟨_, rfl⟩
  rw [← hk] at hc0 hc1 hbox hL hcap
  have hgl : g < w.heap.size := (Array.getElem?_eq_some_iff.1 hb).1
  have hg1l : g1 < w.heap.size := (Array.getElem?_eq_some_iff.1 hh).1
  have hne : g1 ≠ g := by rintro rfl; rw [hh] at hb; simp at hb
  have Hk := Lib.hid hk
  have Hb := Lib.hid hb
  have Hh := Lib.hid hh
  have Hsz := Lib.hid hsz
  have Htk := Lib.hid htk
  clear hcell htk hr1 hrow2 hb hlen hh hsz hk e2
  go_enter Try.func62, Try.ntmps62
  go_wp2_with fail
  refine bodyPost_ret (v := .agg #[.slice x.a1 x.n1 x.c1, .slice x.a2 x.n2 x.c2]) (by simp [results, Try.results62, go_sem]) rfl ⟨rfl, ⟨h.le, some ⟨g1, 0, none⟩, c, ?_, ?_⟩, grown_new (grown_new (grown_set _ _ _) _) _⟩
  · rw [← Hk.out]
    exact heap_keep (heap_keep (box_set Hb.out) _) _
  · rw [← Hk.out]
    refine ⟨by rw [pjobs_length, Hk.out], .inr ⟨g1, c, cur, rfl, hg, heap_keep (heap_keep (heap_far Hh.out hne _) _) _, by omega, hmx, Hsz.out, ?_⟩⟩
    have hk := Hk.out
    have e3 : (pjobs L).take (k * 2) = pjobs L := List.take_of_length_le (by rw [pjobs_length, hk]; exact Nat.le_refl _)
    have := congrArg (List.take (k * 2)) Htk.out
    rw [List.take_take, pjobs_append, List.take_append_of_le_length (by rw [pjobs_length, hk]; exact Nat.le_refl _), e3, Nat.min_eq_left (by omega)] at this
    exact this

theorem pjobs_one (L : List PJob) : ∀ u ∈ pjobs L, u.oneCell' = true := by
  intro u hu
  simp only [pjobs, List.mem_flatMap] at hu
  obtain ⟨x, _, hx⟩ := hu
  simp only [PJob.cells, List.mem_cons, List.not_mem_nil, or_false] at hx
  rcases hx with rfl | rfl <;> rfl

theorem elem_pair : Elem Try.prog 121 119 (.agg #[.slice none 0 0, .slice none 0 0]) 2 48 := ⟨Try.underlying121, by kernel_rfl, rfl, by omega⟩

set_option maxHeartbeats 1000000 in
theorem ppush_any (base g b o m c : Nat) (L M : List PJob) (w : World) (h : PStk w base g L) (hm : m = M.length) (hc : ∀ j u, (pjobs M)[j]? = some u → w.cell? ⟨b, o + j, none⟩ = some u) (hL : L.length + m ≤ 1099511627776) (hb : base ≤ w.heap.size) :
    Calls Try.prog 63 #[.pointer (some ⟨g, 0, none⟩), .slice (some ⟨b, o, none⟩) m c] w fun e w' =>
      (∃ v, e = .returned v) ∧ PStk w' base g (L ++ M) ∧ Below base w w' ∧ ∀ k, k < w.heap.size → PFar w g k → w'.heap[k]? = w.heap[k]? ∧ PFar w' g k := by
  obtain ⟨A, c1, hbx, hrow⟩ := h.row
  have hbox : w.cell? ⟨g, 0, none⟩ = some (.slice A L.length c1) := by rw [cell_of_row w g 0 _ _ _ hbx]; rfl
  have hfr : w.frozen? ⟨g, 0, none⟩ = false := by simp [World.frozen?, hbx]
  have hgl : g < w.heap.size := (Array.getElem?_eq_some_iff.1 hbx).1
  have hsrc : Src Try.prog 2 120 (.slice (some ⟨b, o, none⟩) m c) m (pjobs M) w := Src.laid Try.underlying120 (by rw [pjobs_length, hm]) hc (pjobs_one M)
  have hlt := hrow.lt
  have hne : ∀ k, (Value.slice A L.length c1).ownBlock = some k → k ≠ g := by
    rintro k hk rfl
    rcases hrow.2 with ⟨e, _⟩ | ⟨g1, cap, cur, e, _, hh, _⟩
    · rw [e] at hk; cases hk
    · rw [e] at hk
      injection hk with hk
      simp only at hk
      rw [hk] at hh
      rw [hh] at hbx
      simp at hbx
  obtain ⟨k, hk⟩ : ∃ k, k = L.length := ⟨_, rfl⟩
  rw [← hk] at hbox hL hrow hlt hne
  have Hbx := Lib.hid hbx
  have Hm := Lib.hid hm
  have Hk := Lib.hid hk
  have Hlt := Lib.hid hlt
  have Hne := Lib.hid hne
  clear hc hk hm hlt hne hbx
  go_enter Try.func63, Try.ntmps63
  go_wp2_with (at_builtin; refine wpList_append_row rfl (.tmp 7) (.tmp 8) _ _ rfl elem_pair rfl rfl hrow hsrc hL hb ?_; intro A' c' w' ho' hg' hat'; have hbox' := (hg'.cell hbox (fun e => Hne.out _ e.symm rfl)); have hfr' : w'.frozen? ⟨g, 0, none⟩ = false := (World.frozen?_of_block (hg'.block g hgl (fun e => Hne.out _ e.symm rfl))).trans hfr)
  go_end0
  have hnb : (Value.slice A' (k + m) c').ownBlock ≠ some g := by
    cases A' with
    | none => simp [Value.ownBlock]
    | some a =>
      rcases hat' a rfl with e | e
      · simp only [Value.ownBlock, ne_eq, Option.some.injEq]; omega
      · intro e'
        simp only [Value.ownBlock] at e'
        exact Hne.out g (by rw [← e, ← e']) rfl
  have hlen : (L ++ M).length = k + m := by rw [List.length_append, ← Hk.out, ← Hm.out]
  refine ⟨⟨_, rfl⟩, ⟨h.le, A', c', ?_, ?_⟩, ?_, fun q hq hf => ?_⟩
  · rw [hlen]
    exact box_set ((hg'.block g hgl (fun e => Hne.out _ e.symm rfl)).trans Hbx.out)
  · rw [hlen, pjobs_append]
    exact ho'.kept (grown_set w' ⟨g, 0, none⟩ _) (.inr hnb)
  · refine ((Below.refl base w).grown hg' hb (fun q hq => (Hlt.out q hq).1)).trans ?_
    exact (Below.refl base w').setCell h.le _
  · have hq2 := hf.2 _ _ _ Hbx.out
    rw [← Hk.out] at hq2
    refine ⟨(Below.heap_setCell w' ⟨g, 0, none⟩ _ q hf.1).trans (hg'.block q hq (fun e => hq2 e.symm)), hf.1, fun A2 n2 c2 he => ?_⟩
    rw [box_set ((hg'.block g hgl (fun e => Hne.out _ e.symm rfl)).trans Hbx.out)] at he
    injection he with he
    injection he with he _ _
    have he := congrArg Array.toList he
    simp only [List.cons.injEq, Value.slice.injEq, and_true] at he
    obtain ⟨rfl, rfl, rfl⟩ := he
    cases A' with
    | none => simp [Value.ownBlock]
    | some a =>
      rcases hat' a rfl with e | e
      · simp only [Value.ownBlock, ne_eq, Option.some.injEq]; omega
      · simp only [Value.ownBlock]
        rw [e]
        exact hq2
end Go.Proofs.Ytchoipmfngcdoaa
