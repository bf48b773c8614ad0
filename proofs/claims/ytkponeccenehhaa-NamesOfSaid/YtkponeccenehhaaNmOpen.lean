/- An argument that is a set of names, opened; names' faces at a world behind another one; the laws' known and Few. No conditions but small sets. -/
import Derived.Test.YtkponeccenehhaaNmFace
import Derived.Lib.SmallJoins
namespace Go.Proofs.Ytkponeccenehhaa.Nm
open Go.ChangeShapes Go.WideShapes Go.ChangeAt Go.RowKit
set_option maxRecDepth 100000

section
variable {H : Type} {enc : TypeId × Value → H}
theorem open_names {W : World} {base : Nat} {v : Value} {d : DataW H} {p : List MemPlace} (hval : Value.okWide Try.prog W .any base 25 v) (h : DataW.Trod enc Try.prog W 0 (fun _ => true) true 25 v d p) :
    ∃ (s : St) (A : Option Addr) (n c : Nat), v = .agg #[.bool s.all, .slice A n c] ∧ In W s A n ∧ n ≤ c ∧ c ≤ maxLen ∧ ∀ x ∈ s.l, x.length ≤ maxLen := by
  obtain ⟨v0, v1, y0, y1, fuel, rfl, _, _, h0, h1⟩ := Go.Joins.open_agg2 Try.underlying25 (by kernel_rfl) (by kernel_rfl) hval h
  obtain ⟨b, hb, _⟩ := DataW.trod_bool Try.underlying4 h0
  injection hb with hb
  subst hb
  rcases open_strings Try.underlying23 Try.underlying9 cells_str h1 with ⟨hcs, _⟩ | ⟨a, len, cap, zs, hcs, _, hl, hm, hz, _, hcell, hwz⟩
  · injection hcs with hcs
    subst hcs
    exact ⟨⟨b, []⟩, none, 0, 0, rfl, ⟨⟨rfl, fun j u h => by simp at h⟩⟩, Nat.le_refl _, Nat.zero_le _, fun x hx => by cases hx⟩
  · injection hcs with hcs
    subst hcs
    simp only [if_true] at hz
    refine ⟨⟨b, (zs.take len).map (·.data.toList)⟩, some a, len, cap, rfl, ⟨⟨by simp; omega, fun j u hu => ?_⟩⟩, hl, hm, fun x hx => ?_⟩
    · have hj : j < len := by
        rcases Nat.lt_or_ge j len with g | g
        · exact g
        · rw [List.getElem?_eq_none (by simp; omega)] at hu; cases hu
      have hcj := hcell j (by omega)
      have hsp := plain_addr (hcell 0 (by omega))
      obtain ⟨ab, ao, sp⟩ := a
      simp only at hsp
      subst hsp
      have hjz : j < zs.length := by omega
      have e : zs.getD j ByteArray.empty = zs[j] := by simp [List.getD, List.getElem?_eq_getElem hjz]
      rw [List.map_map, List.getElem?_map, List.getElem?_take_of_lt hj, List.getElem?_eq_getElem hjz] at hu
      simp only [Option.map_some, Option.some.injEq] at hu
      subst hu
      rw [Addr.add_lit, e] at hcj
      exact ⟨ab, ao, rfl, block_lt hcj, by rw [hcj]; rfl⟩
    · obtain ⟨z, hz', rfl⟩ := List.mem_map.1 hx
      have := hwz z (List.mem_of_mem_take hz')
      exact this
end

/-- A set is told, and all that lay in W1 lies as it lay. -/
def At (W1 : World) (s : St) (e : Ending) (w' : World) : Prop := ∃ A' c', e = .returned (.agg #[.bool s.all, .slice A' s.l.length c']) ∧ In w' s A' s.l.length ∧ Below W1.heap.size W1 w'
/-- A bool is told, and all that lay in W1 lies as it lay. -/
def Is (W1 : World) (x : Bool) (e : Ending) (w' : World) : Prop := e = .returned (.bool x) ∧ Below W1.heap.size W1 w'

theorem both_at {W1 : World} (a b : St) (A A2 : Option Addr) (n c n2 c2 : Nat) (hn : n ≤ 4096) (hn2 : n2 ≤ 4096) (W : World) (hb : Below W1.heap.size W1 W) (h : In W a A n) (h2 : In W b A2 n2) :
    Calls Try.prog 16 #[.agg #[.bool a.all, .slice A n c], .agg #[.bool b.all, .slice A2 n2 c2]] W (At W1 (both a b)) := by
  refine (both_any a b A A2 n c n2 c2 W h h2 (by omega) (by omega)).mono ?_
  rintro e w' ⟨A', c', rfl, hs, hb'⟩
  exact ⟨A', c', rfl, ⟨hs⟩, hb.trans (hb'.mono hb.size)⟩
theorem either_at {W1 : World} (a b : St) (A A2 : Option Addr) (n c n2 c2 : Nat) (hn : n ≤ 4096) (hn2 : n2 ≤ 4096) (W : World) (hb : Below W1.heap.size W1 W) (h : In W a A n) (h2 : In W b A2 n2) :
    Calls Try.prog 17 #[.agg #[.bool a.all, .slice A n c], .agg #[.bool b.all, .slice A2 n2 c2]] W (At W1 (either a b)) := by
  refine (either_any a b A A2 n c n2 c2 W h h2 (by omega) (by omega)).mono ?_
  rintro e w' ⟨A', c', rfl, hs, hb'⟩
  exact ⟨A', c', rfl, ⟨hs⟩, hb.trans (hb'.mono hb.size)⟩
theorem not_at {W1 : World} (a : St) (A : Option Addr) (n c : Nat) (hn : n ≤ 4096) (W : World) (hb : Below W1.heap.size W1 W) (h : In W a A n) :
    Calls Try.prog 13 #[.agg #[.bool a.all, .slice A n c]] W (At W1 (nott a)) := by
  refine (not_any a A n c W h (by omega)).mono ?_
  rintro e w' ⟨A', c', rfl, hs, hb'⟩
  exact ⟨A', c', rfl, ⟨hs⟩, hb.trans (hb'.mono hb.size)⟩
theorem same_at {W1 : World} (a b : St) (A A2 : Option Addr) (n c n2 c2 : Nat) (hn : n ≤ 4096) (hn2 : n2 ≤ 4096) (W : World) (hb : Below W1.heap.size W1 W) (h : In W a A n) (h2 : In W b A2 n2) :
    Calls Try.prog 18 #[.agg #[.bool a.all, .slice A n c], .agg #[.bool b.all, .slice A2 n2 c2]] W (Is W1 (same a b)) := by
  refine (same_any a b A A2 n c n2 c2 W h h2 (by omega) (by omega)).mono ?_
  rintro e w' ⟨rfl, hb'⟩
  exact ⟨rfl, hb.trans (hb'.mono hb.size)⟩
theorem none_at {W1 : World} (a : St) (A : Option Addr) (c : Nat) (W : World) (hb : Below W1.heap.size W1 W) :
    Calls Try.prog 32 #[.agg #[.bool a.all, .slice A a.l.length c]] W (Is W1 a.none) := by
  refine (none_any a.all A a.l.length c W).mono ?_
  rintro e w' ⟨rfl, hb'⟩
  exact ⟨rfl, hb.trans (hb'.mono hb.size)⟩
theorem in_empty (W : World) (x : Bool) (A : Option Addr) : In W ⟨x, []⟩ A 0 := ⟨⟨rfl, fun j u h => by simp at h⟩⟩

theorem known_any (w : World) : Calls Try.prog 5 #[] w fun e w' => e = .returned (.bool true) ∧ Below w.heap.size w w' := by
  have HN := Lib.hid (not_at (W1 := w) ⟨false, []⟩ none 0 0 (by omega) w (Below.refl _ _) (in_empty w false none))
  have hfd : ∀ (W : World) (A : Option Addr) (N c : Nat) (x : Bool), (Instr.field 25 (.agg #[.bool x, .slice A N c]) 0).run Try.prog W = .ok (.bool x) W := fun W A N c x => by kernel_rfl
  obtain ⟨s, hs⟩ : ∃ s, s = nott ⟨false, []⟩ := ⟨_, rfl⟩
  rw [← hs] at HN
  have HS : Hid (s.all = true) := by rw [hs]; exact Lib.hid rfl
  clear hs
  go_enter Try.func5, Try.ntmps5
  go_wp2_with (go_at_call 13; (with_reducible refine HN.out.mono ?_); rintro e w' ⟨A', c', rfl, _, hb'⟩; simp only [HS.out])
  go_ret
  exact ⟨rfl, hb'⟩
theorem few_any (x : Bool) (A : Option Addr) (n c : Nat) (w : World) : Calls Try.prog 7 #[.agg #[.bool x, .slice A n c]] w fun e w' => e = .returned (.bool (decide (n ≤ 25))) ∧ Below w.heap.size w w' := by
  have hd : decide ((n : Int) ≤ 25) = decide (n ≤ 25) := decide_eq_decide.2 (by omega)
  have Hd := Lib.hid hd
  clear hd
  go_enter Try.func7, Try.ntmps7
  go_wp2_with fail
  go_ret
  exact ⟨by simp [Hd.out], (Below.refl _ _).alloc (Nat.le_refl _) _⟩
end Go.Proofs.Ytkponeccenehhaa.Nm
