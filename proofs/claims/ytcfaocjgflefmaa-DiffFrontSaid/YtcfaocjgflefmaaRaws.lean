/- An argument of raw edges, opened: it reads as a tree of names in memory. No conditions. -/
import Derived.Test.YtcfaocjgflefmaaTree
import Derived.Test.YtcfaocjgflefmaaOpen
import Derived.SizedLaws
namespace Go.Proofs.Ytcfaocjgflefmaa
open Go.ChangeShapes Go.WideShapes Go.ChangeAt Go.RowKit
set_option maxRecDepth 100000

/-- What memory can hold: names, and how many stand beside each other, below 2^47. -/
def Tr.Fit : Tr → Prop
  | .nil => True
  | .cons s k r => s.size ≤ 140737488351232 ∧ k.len ≤ 140737488351232 ∧ k.Fit ∧ r.Fit

theorem bytes_raw : Try.prog.bytesOf 49 = 40 := by kernel_rfl
theorem weights_all {H : Type} {P : Program} {e : TypeId} : ∀ {l : List (DataW H)} {d : DataW H}, d ∈ l → ∀ n ∈ d.weights P e, n ∈ DataW.weightsAll P e l
  | x :: l, d, hd, n, hn => by
    simp only [DataW.weightsAll, List.mem_append]
    rcases List.mem_cons.1 hd with rfl | hd
    · exact .inl hn
    · exact .inr (weights_all hd n hn)
theorem cells_raw : Try.prog.cellsOf 49 = 2 := by kernel_rfl
theorem cells_raws : Try.prog.cellsOf 22 = 1 := by kernel_rfl
theorem cells_text : Try.prog.cellsOf 9 = 1 := by kernel_rfl

section
variable {H : Type} {enc : TypeId × Value → H} {W : World}

theorem raws_of (fuel : Nat) : ∀ (cs : List Value) (x : DataW H × List MemPlace), DataW.trod enc Try.prog W 0 (fun _ => true) true fuel 22 cs = some x →
    ∃ (A : Option Addr) (n c : Nat) (t : Tr), cs = [.slice A n c] ∧ Holds W W.heap.size A n t ∧ ((∀ m ∈ x.1.weights Try.prog 22, m ≤ 140737488351232) → t.len ≤ 140737488351232 ∧ t.Fit) ∧ n ≤ c ∧ c ≤ maxLen := by
  induction fuel using Nat.strongRecOn with
  | _ fuel ih =>
    intro cs x h
    rcases DataW.trod_slice Try.underlying22 h with ⟨rfl, _⟩ | ⟨a, len, cap, elems, rest, n, hf, rfl, hx, _, hl, hm, hlen, hel, _, _⟩
    · exact ⟨none, 0, 0, .nil, rfl, rfl, fun _ => ⟨Nat.zero_le _, trivial⟩, Nat.le_refl _, Nat.zero_le _⟩
    have hw : (∀ m ∈ x.1.weights Try.prog 22, m ≤ 140737488351232) → len ≤ 140737488351232 ∧ ∀ (i : Nat) (e : DataW H × List MemPlace), elems[i]? = some e → ∀ m ∈ e.1.weights Try.prog 49, m ≤ 140737488351232 := by
      intro h
      rw [hx] at h
      simp only [DataW.weights, Try.underlying22, bytes_raw, List.mem_cons, List.mem_append] at h
      refine ⟨?_, fun i e he m hm => h m (.inr (.inl (weights_all (List.mem_map_of_mem (List.mem_of_getElem? he)) m hm)))⟩
      have := h _ (.inl rfl)
      simp only [List.length_map] at this
      omega
    rw [cells_raw] at hel
    -- one edge
    have one : ∀ i, i < len → ∃ (s : ByteArray) (A' : Option Addr) (n' c' : Nat) (k : Tr), W.cell? (a.add (i * 2)) = some (.string s) ∧ W.cell? (a.add (i * 2 + 1)) = some (.slice A' n' c') ∧ Holds W W.heap.size A' n' k ∧
        ((∀ (i : Nat) (e : DataW H × List MemPlace), elems[i]? = some e → ∀ m ∈ e.1.weights Try.prog 49, m ≤ 140737488351232) → s.size ≤ 140737488351232 ∧ k.len ≤ 140737488351232 ∧ k.Fit) ∧ n' ≤ c' ∧ c' ≤ maxLen := by
      intro i hi
      have he := hel i hi
      rw [List.getElem?_eq_getElem (by omega)] at he
      obtain ⟨cs', hc, ht⟩ := Option.bind_eq_some_iff.1 he
      obtain ⟨_, hcl, hat⟩ := World.cells?_some hc
      obtain ⟨ys, n2, hn2, hyx, _, hyl, hfs⟩ := DataW.trod_struct Try.underlying49 ht
      match cs', hcl with
      | [v0, v1], _ =>
        have h0 : DataW.trod enc Try.prog W 0 (fun _ => true) true n2 9 (([v0, v1].drop 0).take (Try.prog.cellsOf 9)) = ys[0]? := hfs 0 _ rfl
        have h1 : DataW.trod enc Try.prog W 0 (fun _ => true) true n2 22 (([v0, v1].drop 1).take (Try.prog.cellsOf 22)) = ys[1]? := hfs 1 _ rfl
        rw [cells_text, List.getElem?_eq_getElem (by rw [hyl]; decide)] at h0
        rw [cells_raws, List.getElem?_eq_getElem (by rw [hyl]; decide)] at h1
        obtain ⟨s, hs, hsd, hsz⟩ := DataW.trod_string Try.underlying9 h0
        obtain ⟨A', n', c', k, hk, hh, hsh, hn', hc'⟩ := ih n2 (by omega) _ _ h1
        have e0 : v0 = .string s := by simpa using hs
        have e1 : v1 = .slice A' n' c' := by simpa using hk
        have c0 := hat 0 (by omega)
        have c1 := hat 1 (by omega)
        rw [addr_add] at c0 c1
        subst e0; subst e1
        refine ⟨s, A', n', c', k, by simpa using c0, by simpa using c1, hh, fun hall => ?_, hn', hc'⟩
        have hwe := hall i _ (List.getElem?_eq_getElem (by omega))
        rw [hyx] at hwe
        match ys, hyl with
        | [y0, y1], _ =>
          simp only [DataW.weights, Try.underlying49, List.map_cons, List.map_nil, DataW.weightsEach, List.append_nil, List.mem_append] at hwe
          have e0 : y0 = (.lit (.string s.data.toList), []) := by simpa using hsd
          refine ⟨?_, hsh (fun m hm => hwe m (.inr (by simpa using hm)))⟩
          have := hwe s.size (.inl (by rw [e0]; simp [DataW.weights]))
          exact this
    -- from the end to the front
    have all : ∀ j, j ≤ len → ∃ t : Tr, Holds W W.heap.size (some (a.add ((len - j) * 2))) j t ∧ ((∀ (i : Nat) (e : DataW H × List MemPlace), elems[i]? = some e → ∀ m ∈ e.1.weights Try.prog 49, m ≤ 140737488351232) → t.Fit) := by
      intro j
      induction j with
      | zero => exact fun _ => ⟨.nil, rfl, fun _ => trivial⟩
      | succ j ihj =>
        intro hj
        obtain ⟨t, ht, hts⟩ := ihj (by omega)
        obtain ⟨s, A', n', c', k, c0, c1, hh, hsh, hn', hc'⟩ := one (len - (j + 1)) (by omega)
        have hb : (a.add ((len - (j + 1)) * 2)).block < W.heap.size := block_lt c0
        have hsp := World.cell?_spot c0
        rw [← addr_add] at c1
        rw [show (len - j) * 2 = (len - (j + 1)) * 2 + 2 by omega, ← addr_add] at ht
        generalize a.add ((len - (j + 1)) * 2) = p at c0 c1 ht hb hsp
        obtain ⟨b, o, sp⟩ := p
        simp only at hsp
        subst hsp
        rw [Addr.add_lit] at c1 ht
        exact ⟨.cons s k t, ⟨b, o, rfl, hb, c0, ⟨A', n', c', c1, hn', hc', hh⟩, j, rfl, ht⟩, fun hall => ⟨(hsh hall).1, (hsh hall).2.1, (hsh hall).2.2, hts hall⟩⟩
    obtain ⟨t, ht, hts⟩ := all len (Nat.le_refl _)
    rw [Nat.sub_self, Nat.zero_mul] at ht
    have hlt := ht.len
    refine ⟨some a, len, cap, t, rfl, ?_, fun h => ⟨by rw [← hlt]; exact (hw h).1, hts (hw h).2⟩, hl, hm⟩
    have e : a.add 0 = a := by simp [Addr.add]
    rwa [e] at ht

theorem open_raws {base : Nat} {v : Value} {d : DataW H} {p : List MemPlace} (hval : Value.okWide Try.prog W .any base 22 v) (h : DataW.Trod enc Try.prog W 0 (fun _ => true) true 22 v d p) :
    ∃ (A : Option Addr) (n c : Nat) (t : Tr), v = .slice A n c ∧ Holds W W.heap.size A n t ∧ ((∀ m ∈ d.weights Try.prog 22, m ≤ 140737488351232) → t.len ≤ 140737488351232 ∧ t.Fit) ∧ n ≤ c ∧ c ≤ maxLen := by
  obtain ⟨a1, len, cap, rfl⟩ := okWide_slice Try.underlying22 hval
  obtain ⟨fuel, hf⟩ := h
  obtain ⟨A, n, c, t, hcs, hh, hs, hn, hc⟩ := raws_of fuel _ _ hf
  simp [Value.cells] at hcs
  obtain ⟨rfl, rfl, rfl⟩ := hcs
  exact ⟨_, _, _, t, rfl, hh, hs, hn, hc⟩
end
end Go.Proofs.Ytcfaocjgflefmaa
