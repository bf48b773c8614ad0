/- tree.Names: the names of some trees' first edges, in order, each once. Conditions: fewer than 2^40 of them. -/
import Derived.Test.YtchoipmfngcdoaaMake
import Derived.Test.YtchoipmfngcdoaaSorted
namespace Go.Proofs.Ytchoipmfngcdoaa
open Go.RowKit
set_option maxRecDepth 100000

/-- The names of its first edges. -/
def Tr.names : Tr → List ByteArray
  | .nil => []
  | .cons s _ r => s :: r.names
theorem names_length (t : Tr) : t.names.length = t.len := by
  induction t with
  | nil => rfl
  | cons s k r _ ih => simp [Tr.names, Tr.len, ih]
theorem names_drop : ∀ (t : Tr) (k : Nat), (t.dropT k).names = t.names.drop k
  | t, 0 => by rw [dropT_zero]; rfl
  | .nil, k + 1 => by simp [Tr.dropT, Tr.names]
  | .cons s k0 r, k + 1 => by simp only [Tr.dropT, Tr.names, List.drop_succ_cons]; exact names_drop r k

/-- A slice of edges, and the tree it reads as. -/
structure Slc where
  at_ : Option Addr
  n : Nat
  c : Nat
  t : Tr
/-- A slice of trees. -/
def Forest (w : World) (B : Nat) (A : Option Addr) (xs : List Slc) : Prop :=
  ∀ j x, xs[j]? = some x → ∃ b o, A = some ⟨b, o, none⟩ ∧ b < B ∧ w.cell? ⟨b, o + j, none⟩ = some (.slice x.at_ x.n x.c) ∧ Holds w B x.at_ x.n x.t
theorem Forest.keep {w w' : World} {B : Nat} {A : Option Addr} {xs : List Slc} (h : Forest w B A xs) (hk : ∀ p : Addr, p.block < B → w'.cell? p = w.cell? p) : Forest w' B A xs := by
  intro j x hx
  obtain ⟨b, o, e, hb, hc, hh⟩ := h j x hx
  exact ⟨b, o, e, hb, (hk _ hb).trans hc, hh.keep hk⟩
def allNames (xs : List Slc) : List ByteArray := xs.flatMap (·.t.names)
def strs (l : List ByteArray) : List Value := l.map Value.string
theorem elem_str : Elem Try.prog 35 9 (.string ⟨#[]⟩) 1 16 := ⟨Try.underlying35, by kernel_rfl, rfl, by omega⟩
theorem strs_one (l : List ByteArray) : ∀ u ∈ strs l, u.oneCell' = true := by
  intro u hu
  simp only [strs, List.mem_map] at hu
  obtain ⟨x, _, rfl⟩ := hu
  rfl

/-- In order, each once. -/
def namesOf (L : List ByteArray) : List (List UInt8) := once (sorted (L.map (·.data.toList)))

set_option maxHeartbeats 2000000 in
theorem names_any (xs : List Slc) (A0 : Option Addr) (n0 c0 B : Nat) (w : World) (hx : Forest w B A0 xs) (hn0 : n0 = xs.length) (hB : B ≤ w.heap.size) (hsz : (allNames xs).length ≤ 549755813888) (hl : xs.length ≤ 549755813888) :
    Calls Try.prog 41 #[.slice A0 n0 c0] w fun e w' => ∃ A' c', e = .returned (.slice A' (namesOf (allNames xs)).length c') ∧ SeesV w' w'.heap.size A' (namesOf (allNames xs)).length ((namesOf (allNames xs)).map encs) ∧ Below w.heap.size w w' := by
  have Hn0 := Lib.hid hn0
  have hnb : n0 ≤ 549755813888 := by omega
  clear hn0
  go_enter Try.func41, Try.ntmps41
  go_wp2_with fail
  go_loopw [3, 10] (fun s i wr => ∃ (k : Nat) (A : Option Addr) (N c : Nat), k ≤ n0 ∧ i = .int .i64 k ∧ s = .slice A N c ∧ wr.ownsRow w.heap.size 9 1 (.slice A N c) N (strs (allNames (xs.take k))) ∧ Below w.heap.size w wr) (fun _ i _ => n0 - (intOf i).toNat)
  case atStart => exact ⟨0, none, 0, 0, Nat.zero_le _, rfl, rfl, World.ownsRow_nil _ w.heap.size _ _, Below.refl _ _⟩
  case round =>
    obtain ⟨k, A, N, c, hk, rfl, rfl, ho, hb⟩ := hrel
    by_cases hlt : k < n0
    · obtain ⟨x, hxk⟩ : ∃ x, xs[k]? = some x := ⟨xs[k]'(by have := Hn0.out; omega), List.getElem?_eq_getElem _⟩
      obtain ⟨b, o, rfl, hbB, hcx, hh⟩ := hx k x hxk
      obtain ⟨xa, xn, xc, t⟩ := x
      simp only at hcx hh
      have hcw := (hb.cell (p := ⟨b, o + k, none⟩) (show b < w.heap.size by omega)).trans hcx
      have hkn : (k : Int) < (n0 : Int) := by omega
      have hk0 : (0 : Int) ≤ (k : Int) := by omega
      have hkb : k ≤ 549755813888 := by omega
      have Hn := Lib.hid hh.len
      have hap : Hid (allNames (xs.take (k + 1)) = allNames (xs.take k) ++ t.names) := by
        rw [List.take_add_one, hxk]
        exact Lib.hid (by simp [allNames])
      have hle : Hid ((allNames (xs.take (k + 1))).length ≤ 549755813888) := by
        have : (allNames (xs.take (k + 1))).length ≤ (allNames xs).length := by
          conv => rhs; rw [← List.take_append_drop (k + 1) xs]
          simp only [allNames, List.flatMap_append, List.length_append]
          omega
        exact Lib.hid (by omega)
      have hxn : xn ≤ 549755813888 := by
        have h1 := hle.out
        rw [hap.out, List.length_append, names_length] at h1
        have := Hn.out
        omega
      have hbw : b < w.heap.size := by omega
      clear hcx
      go_wp2_with fail
      go_loopw [3, 16] (fun s i wl => ∃ (j : Nat) (A : Option Addr) (N c : Nat), j ≤ xn ∧ i = .int .i64 j ∧ s = .slice A N c ∧ wl.ownsRow w.heap.size 9 1 (.slice A N c) N (strs (allNames (xs.take k) ++ t.names.take j)) ∧ Below w.heap.size w wl) (fun _ i _ => xn - (intOf i).toNat)
      case atStart => exact ⟨0, A, N, c, Nat.zero_le _, rfl, rfl, by rw [List.take_zero, List.append_nil]; exact ho, hb⟩
      case round =>
        clear ho
        obtain ⟨j, A, N, c, hj, rfl, rfl, ho, hbl⟩ := hrel
        by_cases hlj : j < xn
        · obtain ⟨b2, o2, s, kt, r, A', n', c', rfl, hb2, hs2, hc2, hn', hc', hk', hr, hd, hd2⟩ := (hh.keep fun p hp => hbl.cell (Nat.lt_of_lt_of_le hp hB)).split j hlj
          have hjn : (j : Int) < (xn : Int) := by omega
          have hj0 : (0 : Int) ≤ (j : Int) := by omega
          have hN : N = (allNames (xs.take k) ++ t.names.take j).length := by
            have := ho.1
            simp only [strs, List.length_map] at this
            omega
          have ht1 : Hid (strs (allNames (xs.take k) ++ t.names.take j) ++ strs [s] = strs (allNames (xs.take k) ++ t.names.take (j + 1))) := by
            have h1 := names_drop t j
            rw [hd] at h1
            have h2 : t.names[j]? = some s := by
              have := congrArg (·[0]?) h1
              simp [Tr.names] at this
              exact this.symm
            rw [List.take_add_one, h2]
            exact Lib.hid (by simp [strs])
          have hN2 : N + 1 ≤ 1099511627776 := by
            have h1 := hle.out
            rw [hap.out, List.length_append, names_length] at h1
            rw [hN, List.length_append, List.length_take]
            omega
          have hsz1 := hbl.size
          have hsrc : ∀ (W : World) (g : Nat), g = W.heap.size → Src Try.prog 1 35 (.slice (some ⟨g, 0, none⟩) 1 1) 1 (strs [s]) (W.alloc (Obj.cells #[Value.string s] 9)) := fun W g hg =>
            hg ▸ Src.laid Try.underlying35 rfl (fun j u hu => by rw [cell_of_row _ _ _ _ _ _ (heap_alloc_new W _), ← hu]; simp [strs]) (strs_one _)
          clear hd hd2 hr hN
          go_wp2_with (at_builtin; refine wpList_append_row rfl (.tmp 20) (.tmp 23) _ _ rfl elem_str rfl rfl ((ho.alloc _).alloc _) (hsrc _ _ (by simp)) hN2 (by simp; omega) ?_; intro A2 c2 w2 ho2 hg2 hat2)
          have hb2' : Below w.heap.size w w2 := ((hbl.alloc hbl.size _).alloc (by simp; omega) _).grown hg2 (by simp; omega) (fun q hq => (ho.lt q hq).1)
          go_roundw
          case rel => exact ⟨j + 1, A2, N + 1, c2, by omega, by go_num, rfl, by rw [← ht1.out]; exact ho2, hb2'⟩
          case measure => simp [intOf]; omega
        · obtain rfl : j = xn := by omega
          have ho' : wr.ownsRow w.heap.size 9 1 (.slice A N c) N (strs (allNames (xs.take (k + 1)))) := by
            rw [hap.out]
            rw [List.take_of_length_le (l := t.names) (by rw [names_length, Hn.out]; exact Nat.le_refl _)] at ho
            exact ho
          clear ho
          go_wp2_with fail
          go_roundw
          case rel => exact ⟨k + 1, A, N, c, by omega, by go_num, rfl, ho', hbl⟩
          case measure => simp [intOf]; omega
    · obtain rfl : k = n0 := by omega
      have ho' : wr.ownsRow w.heap.size 9 1 (.slice A N c) N (strs (allNames xs)) := by
        rw [List.take_of_length_le (by have := Hn0.out; omega)] at ho
        exact ho
      clear ho
      have hr := Row1.of ho'
      have hN : N < 4611686018427387904 := by
        have := ho'.1
        simp only [strs, List.length_map] at this
        omega
      have HS := Lib.hid (sort_row hr hN)
      have HC := Lib.hid (fun (W : World) (h : Row1 W w.heap.size A N c (sorted ((allNames xs).map (·.data.toList)))) => compact_row h hN)
      have hsz1 := hb.size
      clear hr ho'
      go_wp2_with fail
      refine HS.out.mono ?_
      rintro e w1 ⟨rfl, hr1, hb1⟩
      go_wp2_with fail
      refine (HC.out w1 hr1).mono ?_
      rintro e w2 ⟨rfl, hs2, hb2⟩
      go_wp2_with fail
      go_ret
      exact ⟨_, _, rfl, hs2, (hb.trans hb1).trans hb2⟩
end Go.Proofs.Ytchoipmfngcdoaa
