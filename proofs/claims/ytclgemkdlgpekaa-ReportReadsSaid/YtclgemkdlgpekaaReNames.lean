/- The reader: names. Conditions: at most 2^30 runes. -/
import Derived.Test.YtclgemkdlgpekaaReName
import Derived.Test.YtclgemkdlgpekaaReStrs
namespace Go.Proofs.Ytclgemkdlgpekaa.Re
open Go.RowKit
set_option maxRecDepth 100000

def NsP (w : World) (b : Nat) (r : List Nat) (e : Ending) (w' : World) : Prop :=
  ∃ (A : Option Addr) (n c : Nat) (p : List ByteArray), e = .returned (.slice A n c) ∧ OwnS w' w.heap.size A n c p ∧ w.grownBy w' (some b) ∧ bulk p + p.length ≤ r.length ∧ (∀ q, r = nats (pathT q) → p = q)
structure NsI (w wr : World) (b B : Nat) (r rk : List Nat) (A : Option Addr) (N c : Nat) (p : List ByteArray) : Prop where
  rd : Rd wr b B rk
  grown : w.grownBy wr (some b)
  own : OwnS wr w.heap.size A N c p
  few : bulk p + p.length + rk.length ≤ r.length
  told : ∀ q, r = nats (pathT q) → ∃ q', q = p ++ q' ∧ rk = nats (pathT q')
section
variable {w wr : World} {b B : Nat} {r rk : List Nat} {A : Option Addr} {N c : Nat} {p : List ByteArray}
theorem NsI.done (h : NsI w wr b B r rk A N c p) (he : ¬ rk.take 2 = [47, 34]) : ∀ q, r = nats (pathT q) → p = q := by
  intro q hq
  obtain ⟨q', h1, h2⟩ := h.told q hq
  cases q' with
  | nil => rw [h1, List.append_nil]
  | cons s q' => exact absurd (by rw [h2, pathT_cons]; rfl) he
theorem NsI.next {s : ByteArray} {r' : List Nat} {w' : World} {A' : Option Addr} {N' c' : Nat} (h : NsI w wr b B r rk A N c p) (he : rk.take 2 = [47, 34]) (hlen : s.size + r'.length ≤ (rk.drop 2).length) (hn : ∀ l r0, rk.drop 2 = nats (quoL l) ++ 34 :: r0 → s.data.toList = l ∧ r' = r0)
    (hrd : Rd w' b B r') (hg : w.grownBy w' (some b)) (ho : OwnS w' w.heap.size A' N' c' (p ++ [s])) : NsI w w' b B r r' A' N' c' (p ++ [s]) ∧ r'.length < rk.length := by
  have h3 : 2 ≤ rk.length := by
    have := congrArg List.length he
    rw [List.length_take] at this
    simp only [List.length_cons, List.length_nil] at this
    omega
  rw [List.length_drop] at hlen
  refine ⟨⟨hrd, hg, ho, ?_, fun q hq => ?_⟩, by omega⟩
  · have := h.few
    rw [bulk_snoc, List.length_append, List.length_cons, List.length_nil]
    omega
  · obtain ⟨q', h1, h2⟩ := h.told q hq
    cases q' with
    | nil => rw [h2] at he; simp [pathT, nats] at he
    | cons x q' =>
      have h4 : rk.drop 2 = nats (quoL x.data.toList) ++ 34 :: nats (pathT q') := by rw [h2, pathT_cons]; simp [nats]
      obtain ⟨h5, h6⟩ := hn _ _ h4
      refine ⟨q', ?_, h6⟩
      rw [h1, ba_eq h5]
      simp
end

set_option maxHeartbeats 2000000 in
theorem names_any (b B : Nat) (r : List Nat) (w : World) (h : Rd w b B r) :
    Calls Try.prog 23 #[.pointer (some ⟨b, 0, none⟩)] w (NsP w b r) := by
  have HI0 := Lib.hid (show NsI w w b B r r none 0 0 [] from ⟨h, World.grownBy.refl w _, OwnS.nil w _, by simp [bulk], fun q hq => ⟨q, rfl, hq⟩⟩)
  have hbw := h.lt
  have hz := h.few
  clear h
  go_enter Try.func23, Try.ntmps23
  go_wp2_with fail
  go_loopg [3] r.length (fun g o wr => ∃ (rk : List Nat) (A : Option Addr) (N c : Nat) (p : List ByteArray), rk.length = g ∧ o = .slice A N c ∧ Hid (NsI w wr b B r rk A N c p))
  case atStart => exact ⟨r, none, 0, 0, [], rfl, rfl, HI0⟩
  case round =>
    obtain ⟨rk, A, N, c, p, hg, rfl, HI⟩ := hrel
    have hN : N ≤ 1073741824 := by have := OwnS.len HI.out.own; have := HI.out.few; have := len_bulk p; omega
    by_cases hq : rk.take 2 = [47, 34]
    · have HT := Lib.hid (take_yes b B _ rk [47, 34] (some ⟨wr.heap.size, 0, none⟩) 2 2 _ (HI.out.rd.alloc (.cells #[.int .i32 47, .int .i32 34] 21)) (sees_lit wr [47, 34] _ rfl) (by decide) hq)
      have Hq := Lib.hid hq
      clear hq
      go_wp2_with fail
      (with_reducible refine HT.out.mono ?_)
      rintro e w1 ⟨rfl, h1, hg1⟩
      have HG1 := Lib.hid ((World.grownBy_alloc wr _ _).trans hg1)
      have HC := Lib.hid (name_any b B _ w1 h1)
      clear h1 hg1
      go_wp2_with fail
      (with_reducible refine HC.out.mono ?_)
      rintro e w2 ⟨s, r', rfl, h2, hg2, hlen, hch⟩
      have HG2 := Lib.hid (HG1.out.trans hg2)
      have HO2 := Lib.hid (OwnS.keptBy HI.out.own HG2.out hbw)
      have H2 := Lib.hid h2
      have HL := Lib.hid hlen
      have HH := Lib.hid hch
      clear h2 hg2 hlen hch
      have hb2 : w.heap.size ≤ (w2.alloc (.cells #[.string s] 9)).heap.size := by have := HI.out.grown.size; have := HG2.out.size; simp; omega
      go_wp2_with (at_builtin; refine wpList_append_row rfl (.tmp 7) (.tmp 10) _ _ rfl elem_str rfl rfl (HO2.out.alloc _) (src_str _ s _ rfl) (by omega) hb2 ?_; intro A3 c3 w3 ho3 hg3 hat3)
      have h23 := (World.grownBy_alloc w2 (.cells #[.string s] 9) (Value.slice A N c).ownBlock).trans hg3
      have hlt := fun g e => (HO2.out.lt g e).1
      have ho3' : OwnS w3 w.heap.size A3 (N + 1) c3 (p ++ [s]) := by unfold OwnS; rw [strs_app]; exact ho3
      have hgw : w.grownBy w3 (some b) := (HI.out.grown.trans HG2.out).andThen h23 (fun j hj => .inl (hlt j hj))
      have hrd : Rd w3 b B r' := H2.out.kept h23 (fun e => by have := hlt b e; omega) (fun g e => by have := hlt g e; have := H2.out.B_le; omega)
      have HI3 := Lib.hid (HI.out.next Hq.out HL.out HH.out hrd hgw ho3')
      have hmr := HI3.out.2
      clear hlt
      go_roundg r'.length
      case measure => omega
      case rel => exact ⟨r', A3, N + 1, c3, _, rfl, rfl, Lib.hid HI3.out.1⟩
    · have HT := Lib.hid (take_no b B _ rk [47, 34] (some ⟨wr.heap.size, 0, none⟩) 2 2 _ (HI.out.rd.alloc (.cells #[.int .i32 47, .int .i32 34] 21)) (sees_lit wr [47, 34] _ rfl) (by decide) hq)
      have HD := Lib.hid (HI.out.done hq)
      clear hq
      go_wp2_with fail
      (with_reducible refine HT.out.mono ?_)
      rintro e w1 ⟨rfl, h1, hg1⟩
      have HG1 := Lib.hid ((World.grownBy_alloc wr _ _).trans hg1)
      have HO1 := Lib.hid (OwnS.keptBy HI.out.own HG1.out hbw)
      clear h1 hg1
      go_wp2_with fail
      go_ret
      exact ⟨A, N, c, p, rfl, HO1.out, HI.out.grown.trans HG1.out, by have := HI.out.few; omega, HD.out⟩
end Go.Proofs.Ytclgemkdlgpekaa.Re
