/- The reader: name. Conditions: at most 2^30 runes. -/
import Derived.Test.YtclgemkdlgpekaaReChar
namespace Go.Proofs.Ytclgemkdlgpekaa.Re
open Go.RowKit
set_option maxRecDepth 100000

theorem own_kept {w w' : World} {base n c b : Nat} {A : Option Addr} {l : Bs} (h : Own w base A n c l) (hg : w.grownBy w' (some b)) (hb : b < base) : Own w' base A n c l := by
  refine ⟨h.row.kept hg ?_⟩
  cases he : (Value.slice A n c).ownBlock with
  | none => exact .inl rfl
  | some g =>
    refine .inr fun e => ?_
    injection e with e
    have := (h.lt g he).1
    omega
theorem grown_row {w wr w' : World} {base n c b : Nat} {A : Option Addr} {l : Bs} (h : w.grownBy wr (some b)) (ho : Own wr base A n c l) (hb : base = w.heap.size) (hg : wr.grownBy w' (Value.slice A n c).ownBlock) : w.grownBy w' (some b) :=
  h.andThen hg fun j hj => .inl (by have := (ho.lt j hj).1; omega)
theorem Rd.row {wr w' : World} {base n c b B : Nat} {A : Option Addr} {l : Bs} {r : List Nat} (h : Rd wr b B r) (ho : Own wr base A n c l) (hb : b < base) (hB : B ≤ base) (hg : wr.grownBy w' (Value.slice A n c).ownBlock) : Rd w' b B r :=
  h.kept hg (fun e => by have := (ho.lt b e).1; omega) (fun g e => by have := (ho.lt g e).1; omega)
theorem Rd.B_le {w : World} {b B : Nat} {r : List Nat} (h : Rd w b B r) : B ≤ b := by obtain ⟨A, n, c, _, _, _, hB, _⟩ := h; exact hB
theorem Rd.few {w : World} {b B : Nat} {r : List Nat} (h : Rd w b B r) : r.length ≤ 1073741824 := by obtain ⟨A, n, c, _, _, _, _, h⟩ := h; exact h

section
variable {w wr : World} {b B base : Nat} {r rk : List Nat} {A : Option Addr} {N c : Nat} {out : Bs}
theorem NmI.done (h : NmI w wr b B base r rk A N c out) (he : rk = []) : ∀ l r0, r = nats (quoL l) ++ 34 :: r0 → out = l ∧ rk = r0 := by
  intro l r0 hl
  obtain ⟨l', _, h2⟩ := h.told l r0 hl
  rw [he] at h2
  have := congrArg List.length h2
  simp at this
theorem NmI.quote (h : NmI w wr b B base r rk A N c out) (he : rk.take 1 = [34]) : ∀ l r0, r = nats (quoL l) ++ 34 :: r0 → out = l ∧ rk.drop 1 = r0 := by
  intro l r0 hl
  obtain ⟨l', h1, h2⟩ := h.told l r0 hl
  cases l' with
  | nil =>
    rw [h2, h1]
    exact ⟨by simp, rfl⟩
  | cons x l' =>
    obtain ⟨g, t, e, hg⟩ := quoB_head x
    rw [h2, quoL_cons, e] at he
    simp only [nats, List.cons_append, List.map_cons, List.take_succ_cons, List.take_zero, List.cons.injEq, and_true] at he
    exact absurd (UInt8.toNat_inj.1 (show g.toNat = (34 : UInt8).toNat from he)) hg
theorem NmI.next {r' : List Nat} {x : UInt8} {w' : World} {A' : Option Addr} {N' c' : Nat} (h : NmI w wr b B base r rk A N c out) (hne : rk ≠ []) (he : ¬ rk.take 1 = [34]) (hlen : rk ≠ [] → r'.length < rk.length) (hch : ∀ c0 r0, rk = nats (quoB c0) ++ r0 → x = c0 ∧ r' = r0)
    (hrd : Rd w' b B r') (hg : w.grownBy w' (some b)) (ho : Own w' base A' N' c' (out ++ [x])) : NmI w w' b B base r r' A' N' c' (out ++ [x]) := by
  refine ⟨hrd, hg, ho, h.base, ?_, fun l r0 hl => ?_⟩
  · have := h.few
    have := hlen hne
    rw [List.length_append, List.length_cons, List.length_nil]
    omega
  · obtain ⟨l', h1, h2⟩ := h.told l r0 hl
    cases l' with
    | nil => exact absurd (by rw [h2]; rfl) he
    | cons y l' =>
      rw [quoL_cons, nats_append, List.append_assoc] at h2
      obtain ⟨rfl, h3⟩ := hch y _ h2
      exact ⟨l', by rw [h1]; simp, h3⟩
end

set_option maxHeartbeats 2000000 in
theorem name_any (b B : Nat) (r : List Nat) (w : World) (h : Rd w b B r) :
    Calls Try.prog 31 #[.pointer (some ⟨b, 0, none⟩)] w (NmP w b B r) := by
  have HI0 := Lib.hid (show NmI w w b B w.heap.size r r none 0 0 [] from ⟨h, World.grownBy.refl w _, Own.nil w _, rfl, by simp, fun l r0 hl => ⟨l, rfl, hl⟩⟩)
  have hbw := h.lt
  have hz := h.few
  clear h
  go_enter Try.func31, Try.ntmps31
  go_wp2_with fail
  go_loopg [3] r.length (fun g o wr => ∃ (rk : List Nat) (A : Option Addr) (N c : Nat) (out : Bs), rk.length = g ∧ o = .slice A N c ∧ Hid (NmI w wr b B w.heap.size r rk A N c out))
  case atStart => exact ⟨r, none, 0, 0, [], rfl, rfl, HI0⟩
  case round =>
    obtain ⟨rk, A, N, c, out, hg, rfl, HI⟩ := hrel
    obtain ⟨A0, n0, c0, hb, hs, hc, hB, hz0⟩ := HI.out.rd
    have hl0 := hs.len
    rw [List.length_map] at hl0
    have hcell : wr.cell? ⟨b, 0, none⟩ = some (.slice A0 n0 c0) := by rw [cell_of_row wr _ 0 _ _ _ hb]; rfl
    have hblt := (Array.getElem?_eq_some_iff.1 hb).1
    have hout : out.length ≤ 1073741824 := by have := HI.out.few; omega
    have hN : N ≤ 1073741824 := by have := HI.out.own.len; omega
    have hsee := HI.out.own.sees
    have hcv := run_text 31 9 5 Try.underlying31 Try.underlying5 Try.underlying9 (c := c) hsee
    clear hs hb hc hB hout
    by_cases hn : n0 = 0
    · have hrk : rk = [] := List.eq_nil_of_length_eq_zero (by omega)
      subst hn
      have HD := Lib.hid (HI.out.done hrk)
      have Hrk := Lib.hid hrk
      clear hl0 hrk
      go_wp2_with fail
      go_ret
      exact ⟨⟨out.toArray⟩, rk, rfl, HI.out.rd, HI.out.grown, by have := HI.out.few; show out.toArray.size + _ ≤ _; rw [List.size_toArray]; exact this, fun l r0 hl => HD.out l r0 hl⟩
    · have hn0 : (0 : Int) < (n0 : Int) := by omega
      have hn0' : 0 < n0 := by omega
      have Hl0 := Lib.hid hl0
      clear hl0
      by_cases hq : rk.take 1 = [34]
      · have HT := Lib.hid (take_yes b B _ rk [34] (some ⟨wr.heap.size, 0, none⟩) 1 1 _ (HI.out.rd.alloc (.cells #[.int .i32 34] 21)) (sees_lit wr [34] _ rfl) (by decide) hq)
        have HD := Lib.hid (HI.out.quote hq)
        clear hq hcv
        go_wp2_with fail
        (with_reducible refine HT.out.mono ?_)
        rintro e w1 ⟨rfl, h1, hg1⟩
        have HG1 := Lib.hid ((World.grownBy_alloc wr _ _).trans hg1)
        have HO1 := Lib.hid (own_kept HI.out.own HG1.out hbw)
        have hsee1 := HO1.out.sees
        have hcv := run_text 31 9 5 Try.underlying31 Try.underlying5 Try.underlying9 (c := c) hsee1
        have H1 := Lib.hid h1
        clear h1 hg1
        go_wp2_with fail
        go_ret
        exact ⟨⟨out.toArray⟩, rk.drop 1, rfl, H1.out, HI.out.grown.trans HG1.out, by have := HI.out.few; show out.toArray.size + _ ≤ _; rw [List.size_toArray, List.length_drop]; omega, fun l r0 hl => HD.out l r0 hl⟩
      · have HT := Lib.hid (take_no b B _ rk [34] (some ⟨wr.heap.size, 0, none⟩) 1 1 _ (HI.out.rd.alloc (.cells #[.int .i32 34] 21)) (sees_lit wr [34] _ rfl) (by decide) hq)
        have Hq := Lib.hid hq
        clear hq hcv
        go_wp2_with fail
        (with_reducible refine HT.out.mono ?_)
        rintro e w1 ⟨rfl, h1, hg1⟩
        have HG1 := Lib.hid ((World.grownBy_alloc wr _ _).trans hg1)
        have HC := Lib.hid (char_any b B rk w1 h1)
        clear h1 hg1
        go_wp2_with fail
        (with_reducible refine HC.out.mono ?_)
        rintro e w2 ⟨x, r', rfl, h2, hg2, hlen, hch⟩
        have HG2 := Lib.hid (HG1.out.trans hg2)
        have HO2 := Lib.hid (own_kept HI.out.own HG2.out hbw)
        have H2 := Lib.hid h2
        have HL := Lib.hid hlen
        have HH := Lib.hid hch
        clear h2 hg2 hlen hch
        have hr2 := HO2.out.alloc (.cells #[.int .u8 (x.toNat : Int)] 5)
        have hx2 : From Try.prog (w2.alloc (.cells #[.int .u8 (x.toNat : Int)] 5)) 31 (.slice (some ⟨w2.heap.size, 0, none⟩) 1 1) 1 [x] := From.sees (Own.lit w2 [x] 1 (Nat.le_refl _) (by simp [maxLen]) rfl).sees
        have hb2 : w.heap.size ≤ (w2.alloc (.cells #[.int .u8 (x.toNat : Int)] 5)).heap.size := by have := HI.out.grown.size; have := HG2.out.size; simp; omega
        go_wp2_with (at_builtin; refine wpList_append_from rfl (.tmp 16) (.tmp 19) _ rfl rfl rfl hr2 hx2 (by omega) hb2 ?_; intro A3 N3 c3 w3 ho3 hg3 hat3)
        have hne : rk ≠ [] := by
          intro e
          have := Hl0.out
          rw [e] at this
          exact hn this
        have h23 := (World.grownBy_alloc w2 (.cells #[.int .u8 (x.toNat : Int)] 5) (Value.slice A N c).ownBlock).trans hg3
        have HI3 := Lib.hid (HI.out.next hne Hq.out HL.out HH.out (H2.out.row HO2.out hbw (by have := H2.out.B_le; omega) h23) (grown_row (HI.out.grown.trans HG2.out) HO2.out rfl h23) ho3)
        have hmr := HL.out hne
        go_roundg r'.length
        case measure => omega
        case rel => exact ⟨r', A3, N3, c3, _, rfl, rfl, HI3⟩
end Go.Proofs.Ytclgemkdlgpekaa.Re
