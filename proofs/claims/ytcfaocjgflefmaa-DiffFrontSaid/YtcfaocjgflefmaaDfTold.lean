/- diff.told: what is below a name in each of some trees that have it. Conditions: fewer than 100 trees, each in order. -/
import Derived.Test.YtcfaocjgflefmaaDfIdx
namespace Go.Proofs.Ytcfaocjgflefmaa.Df
open Go.RowKit Go.Proofs.Ytcfaocjgflefmaa.Pt
set_option maxRecDepth 100000

set_option maxHeartbeats 1000000 in
theorem differ1_any (t : Tr) (name : ByteArray) (A : Option Addr) (n c g B : Nat) (w : World) (h : Holds w B A n t) (hB : B ≤ w.heap.size) (hn : n ≤ 140737488351232) (ha : t.Asc) (hg0 : w.cell? ⟨g, 0, none⟩ = some (.string name)) :
    Calls Try.prog 37 #[.slice A n c, .pointer (some ⟨g, 0, none⟩)] w (EdgP t name B w) := by
  have HC := Lib.hid (edge_any t name A n c B w h hB hn ha)
  clear h ha
  go_enter Try.func37, Try.ntmps37
  go_wp2_with fail
  (with_reducible refine HC.out.mono ?_)
  rintro e w2 ⟨A', n', c', rfl, h1, h2, h3, h4⟩
  have HP := Lib.hid (show EdgP t name B w (.returned (.tuple #[.slice A' n' c', .bool (t.atIs name)])) w2 from ⟨A', n', c', rfl, h1, h2, h3, h4⟩)
  clear h1 h4
  go_wp2_with fail
  go_ret2
  exact HP.out

def Slc.v (x : Slc) : Value := .slice x.at_ x.n x.c
def sv (xs : List Slc) : List Value := xs.map Slc.v
theorem sv_one (xs : List Slc) : ∀ u ∈ sv xs, u.oneCell' = true := by
  intro u hu
  simp only [sv, List.mem_map] at hu
  obtain ⟨x, _, rfl⟩ := hu
  rfl
theorem elem_tree : Elem Try.prog 57 26 (.slice none 0 0) 1 24 := ⟨Try.underlying57, by kernel_rfl, rfl, by omega⟩
/-- What is below the name, in those that have it. -/
def kidsT (xs : List Slc) (name : ByteArray) : List Tr := (xs.filter fun x => x.t.atIs name).map fun x => kidT x.t name
structure Tld (w wr : World) (B : Nat) (A : Option Addr) (N c : Nat) (ys : List Slc) (ts : List Tr) : Prop where
  own : wr.ownsRow w.heap.size 26 1 (.slice A N c) N (sv ys)
  each : ∀ y ∈ ys, Holds wr B y.at_ y.n y.t ∧ y.n ≤ y.c ∧ y.c ≤ maxLen
  trees : ys.map (·.t) = ts
  below : Below w.heap.size w wr
theorem Tld.len {w wr : World} {B N c : Nat} {A : Option Addr} {ys : List Slc} {ts : List Tr} (h : Tld w wr B A N c ys ts) : N = ts.length := by
  have h1 := h.own.1
  rw [sv, List.length_map] at h1
  rw [← h.trees, List.length_map]
  omega
def ToldP (xs : List Slc) (name : ByteArray) (B : Nat) (w : World) (e : Ending) (w' : World) : Prop :=
  ∃ A' N c' ys, e = .returned (.slice A' N c') ∧ Tld w w' B A' N c' ys (kidsT xs name)
theorem src_tree (W V : World) (x : Slc) (g : Nat) (hg : g = W.heap.size) (hV : V = W.alloc (Obj.cells #[.slice x.at_ x.n x.c] 26)) : Src Try.prog 1 57 (.slice (some ⟨g, 0, none⟩) 1 1) 1 (sv [x]) V := by
  subst hV
  exact hg ▸ Src.laid Try.underlying57 rfl (fun j u hu => by rw [cell_of_row _ _ _ _ _ _ (heap_alloc_new W _), ← hu]; simp [sv, Slc.v]) (sv_one _)

set_option maxHeartbeats 2000000 in
theorem told_any (xs : List Slc) (name : ByteArray) (A0 : Option Addr) (n0 c0 g B : Nat) (w : World) (hx : Forest w B A0 xs) (hn0 : n0 = xs.length) (hB : B ≤ w.heap.size) (hl : xs.length ≤ 100) (hxs : ∀ x ∈ xs, x.t.Asc ∧ x.n ≤ 140737488351232) (hg0 : w.cell? ⟨g, 0, none⟩ = some (.string name)) :
    Calls Try.prog 36 #[.slice A0 n0 c0, .func (.func 37) #[] #[.pointer (some ⟨g, 0, none⟩)]] w (ToldP xs name B w) := by
  have hgs := block_lt hg0
  simp only at hgs
  have Hn0 := Lib.hid hn0
  have hnb : n0 ≤ 100 := by omega
  have HX := Lib.hid hx
  have Hxs := Lib.hid hxs
  have Hg0 := Lib.hid hg0
  clear hn0 hx hxs hg0
  go_enter Try.func36, Try.ntmps36
  go_wp2_with fail
  go_loopw [5, 12] (fun s i wr => ∃ (k : Nat) (A : Option Addr) (N c : Nat) (ys : List Slc), k ≤ n0 ∧ i = .int .i64 k ∧ s = .slice A N c ∧ N ≤ k ∧ Hid (Tld w wr B A N c ys (kidsT (xs.take k) name))) (fun _ i _ => n0 - (intOf i).toNat)
  case atStart => exact ⟨0, none, 0, 0, [], Nat.zero_le _, rfl, rfl, Nat.le_refl _, Lib.hid ⟨World.ownsRow_nil _ _ _ _, fun _ h => by simp at h, rfl, Below.refl _ _⟩⟩
  case round =>
    obtain ⟨k, A, N, c, ys, hk, rfl, rfl, hNk, HT⟩ := hrel
    by_cases hlt : k < n0
    · obtain ⟨x, hxk⟩ : ∃ x, xs[k]? = some x := ⟨xs[k]'(by have := Hn0.out; omega), List.getElem?_eq_getElem _⟩
      obtain ⟨b, o, rfl, hbB, hcx, hh⟩ := HX.out k x hxk
      obtain ⟨hxa, hxn⟩ := Hxs.out x (List.mem_of_getElem? hxk)
      have hcw := (HT.out.below.cell (p := ⟨b, o + k, none⟩) (show b < w.heap.size by omega)).trans hcx
      have hkn : (k : Int) < (n0 : Int) := by omega
      have hk0 : (0 : Int) ≤ (k : Int) := by omega
      have htk : xs.take (k + 1) = xs.take k ++ [x] := by rw [List.take_add_one, hxk]; rfl
      have HC := Lib.hid (differ1_any x.t name x.at_ x.n x.c g B wr (hh.keep fun p hp => HT.out.below.cell (Nat.lt_of_lt_of_le hp hB)) (Nat.le_trans hB HT.out.below.size) hxn hxa ((HT.out.below.cell (p := ⟨g, 0, none⟩) hgs).trans Hg0.out))
      have Hlt := Lib.hid hlt
      clear hcx hh hxk hxa
      cases hv : x.t.atIs name with
      | true =>
        have HK := Lib.hid (show kidsT (xs.take (k + 1)) name = kidsT (xs.take k) name ++ [kidT x.t name] by
          rw [htk, kidsT, List.filter_append, List.map_append, List.filter_cons, hv]
          rfl)
        have hN2 : N + 1 ≤ 1099511627776 := by omega
        clear htk hlt
        go_wp2_with fail
        (with_reducible refine HC.out.mono ?_)
        rintro e w2 ⟨A', n', c', rfl, h1, h2, h3, h4⟩
        rw [hv]
        have hsw := HT.out.below.size
        have HT2 := Lib.hid (show Tld w w2 B A N c ys (kidsT (xs.take k) name) from ⟨owns_belowD HT.out.own h4, fun y hy => ⟨((HT.out.each y hy).1).keep fun p hp => h4.cell (by omega), (HT.out.each y hy).2⟩, HT.out.trees, HT.out.below.trans (h4.mono hsw)⟩)
        have H1 := Lib.hid h1
        have hsw2 := HT2.out.below.size
        have Hv := Lib.hid hv
        clear h1 h4 hv
        go_wp2_with (at_builtin; refine wpList_append_row rfl (.tmp 23) (.tmp 25) _ _ rfl elem_tree rfl rfl (HT2.out.own.alloc _) (src_tree w2 _ ⟨A', n', c', kidT x.t name⟩ _ rfl rfl) hN2 (by simp; omega) ?_; intro A3 c3 w3 ho3 hg3 hat3)
        have hb3 : Below w.heap.size w w3 := (HT2.out.below.alloc hsw2 _).grown hg3 (by simp; omega) (fun q hq => (HT2.out.own.lt q hq).1)
        have hk3 : ∀ p : Addr, p.block < B → w3.cell? p = w2.cell? p := fun p hp => by
          have e1 : w3.cell? p = w.cell? p := hb3.cell (Nat.lt_of_lt_of_le hp hB)
          have e2 : w2.cell? p = w.cell? p := HT2.out.below.cell (Nat.lt_of_lt_of_le hp hB)
          rw [e1, e2]
        have HT3 := Lib.hid (show Tld w w3 B A3 (N + 1) c3 (ys ++ [⟨A', n', c', kidT x.t name⟩]) (kidsT (xs.take (k + 1)) name) from ⟨by
          rw [sv, List.map_append]
          exact ho3, fun y hy => by
          rw [List.mem_append, List.mem_singleton] at hy
          rcases hy with hy | rfl
          · exact ⟨((HT2.out.each y hy).1).keep hk3, (HT2.out.each y hy).2⟩
          · exact ⟨H1.out.keep hk3, h2, h3⟩, by rw [List.map_append, HT2.out.trees, HK.out]; rfl, hb3⟩)
        clear ho3 hg3 hat3 hb3 hk3
        go_roundw
        case rel => exact ⟨k + 1, A3, N + 1, c3, _, Hlt.out, by go_num, rfl, by omega, HT3⟩
        case measure => have := Hlt.out; simp [intOf]; omega
      | false =>
        have HK := Lib.hid (show kidsT (xs.take (k + 1)) name = kidsT (xs.take k) name by
          rw [htk, kidsT, List.filter_append, List.map_append, List.filter_cons, hv]
          simp [kidsT])
        clear htk hlt
        go_wp2_with fail
        (with_reducible refine HC.out.mono ?_)
        rintro e w2 ⟨A', n', c', rfl, h1, h2, h3, h4⟩
        rw [hv]
        have hsw := HT.out.below.size
        have HT2 := Lib.hid (show Tld w w2 B A N c ys (kidsT (xs.take (k + 1)) name) from ⟨owns_belowD HT.out.own h4, fun y hy => ⟨((HT.out.each y hy).1).keep fun p hp => h4.cell (by omega), (HT.out.each y hy).2⟩, by rw [HK.out]; exact HT.out.trees, HT.out.below.trans (h4.mono hsw)⟩)
        clear h1 h4 hv
        go_wp2_with fail
        go_roundw
        case rel => exact ⟨k + 1, A, N, c, ys, Hlt.out, by go_num, rfl, by omega, HT2⟩
        case measure => have := Hlt.out; simp [intOf]; omega
    · obtain rfl : k = n0 := by omega
      have HT2 := Lib.hid (show ToldP xs name B w (.returned (.slice A N c)) wr from ⟨A, N, c, ys, rfl, by
        have := HT.out
        rwa [List.take_of_length_le (by have := Hn0.out; omega)] at this⟩)
      clear hlt HT
      go_wp2_with fail
      go_ret
      exact HT2.out
end Go.Proofs.Ytcfaocjgflefmaa.Df
