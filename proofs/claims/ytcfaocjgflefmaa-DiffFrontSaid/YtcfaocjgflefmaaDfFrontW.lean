/- DiffFront. No conditions. -/
import Derived.Test.YtcfaocjgflefmaaDfKnown
import Derived.Test.YtcfaocjgflefmaaDfRef
namespace Go.Proofs.Ytcfaocjgflefmaa.Df
open Go.RowKit Go.Proofs.Ytcfaocjgflefmaa.Pt
set_option maxRecDepth 100000

theorem fr_self (p : List ByteArray) : fr p p = true := fr_iff.2 List.prefix_rfl
theorem fr_nil (p : List ByteArray) : fr p [] = true := fr_iff.2 List.nil_prefix
theorem fr_takeP (p : List ByteArray) (k : Nat) : fr p (p.take k) = true := fr_iff.2 (List.take_prefix k p)
theorem fr_app (p q : List ByteArray) : fr (p ++ q) p = true := fr_iff.2 (List.prefix_append p q)
theorem fr_back (p : List ByteArray) (k : Nat) (hk : k ≤ p.length) : fr (p.take k) p = decide (k = p.length) := by
  by_cases h : k = p.length
  · rw [h, List.take_length, decide_eq_true rfl]
    exact fr_self p
  · rw [fr_long (by rw [List.length_take]; omega), decide_eq_false h]
theorem src_sees {w : World} {B n c : Nat} {A : Option Addr} {l : List ByteArray} (h : SeesV w B A n (l.map Value.string)) : Src Try.prog 1 31 (.slice A n c) n (strs l) w := by
  have hl := h.len
  rw [List.length_map] at hl
  rcases Nat.eq_zero_or_pos n with h0 | h0
  · subst h0
    have e : l = [] := List.eq_nil_of_length_eq_zero hl.symm
    subst e
    cases A with
    | none => exact Src.ofNil w Try.underlying31 c
    | some a => exact Src.ofSlice w Try.underlying31 a 0 c [] rfl (fun j u hu => by simp at hu) (by simp)
  · obtain ⟨b, o, rfl, hb, _⟩ := h.str h0
    exact Src.laid Try.underlying31 (by rw [strs, List.length_map, Nat.mul_one]; exact hl.symm) (fun j u hu => by
      obtain ⟨b', o', e, _, hc⟩ := h.cell j u hu
      injection e with e
      injection e with e1 e2
      subst e1; subst e2
      exact hc) (strs_one _)

section
variable {P : Program} {w : World} {ops : Array Oper} {rest : List Oper} {o : Oper} {a : Act} {Q : Exit → Act → World → Prop}
/-- append at an operation whose guard says that it is wanted. -/
theorem wpList_append_rowG (hw : Region.wanted o (yielded ops a.tmps) = true) (s x : Operand) (t tx : TypeId) (hop : o.op = .call { callee := .builtin .append, args := #[s, x], argTypes := #[t, tx] })
    {base n c m size bytes : Nat} {A : Option Addr} {xs ys : List Value} {e : TypeId} {z vx : Value} (he : Elem P t e z size bytes)
    (hs : a.eval s = .slice A n c) (hxv : a.eval x = vx) (ho : w.ownsRow base e size (.slice A n c) n xs) (hx : Src P size tx vx m ys w) (h46 : n + m ≤ 1099511627776) (hbase : base ≤ w.heap.size)
    (h : ∀ A' c' w', w'.ownsRow base e size (.slice A' (n + m) c') (n + m) (xs ++ ys) → w.grownBy w' (Value.slice A n c).ownBlock → (∀ a, A' = some a → a.block = w.heap.size ∨ some a.block = (Value.slice A n c).ownBlock) →
      wpList P ops Q rest (a.put o.dst (.slice A' (n + m) c')) w') : wpList P ops Q (o :: rest) a w := by
  obtain ⟨A', c', w', hr, h1, h2, h3⟩ := run_append_row o.type he ho hx h46 hbase
  exact wpList_step fun K hK => by
    rw [if_pos hw]
    exact Lib.wp_append_run w s x _ _ hop _ _ hs hxv _ _ hr (hK _ _ (h A' c' w' h1 h2 h3))
end

set_option maxHeartbeats 4000000 in
theorem front_walk (p q : List ByteArray) (a : Int) (A A2 : Option Addr) (n c n2 c2 : Nat) (w : World) (h : SeesV w w.heap.size A n (p.map Value.string)) (hc : n ≤ c) (h2 : SeesV w w.heap.size A2 n2 (q.map Value.string)) (ha : (Lit.int .i64 a).wf = true) :
    Calls Try.prog 6 #[.slice A n c, .slice A2 n2 c2, .int .i64 a] w fun e w' => e = .returned (.bool true) ∧ Below w.heap.size w w' := by
  have hK := known_any w
  have hl := h.len
  have hl2 := h2.len
  rw [List.length_map] at hl hl2
  by_cases hn : n ≤ 20
  · by_cases hn2 : n2 ≤ 20
    · have hni : (n : Int) ≤ 20 := by omega
      have hn2i : (n2 : Int) ≤ 20 := by omega
      have hnn : ¬ ((20 : Int) < (n : Int)) := by omega
      have hnn2 : ¬ ((20 : Int) < (n2 : Int)) := by omega
      have hnl : ¬ (20 < n) := by omega
      have hnl2 : ¬ (20 < n2) := by omega
      obtain ⟨k, hk⟩ : ∃ k : Nat, a % ((n : Int) + 1) = (k : Int) := ⟨(a % ((n : Int) + 1)).toNat, by have := Int.emod_nonneg a (show (n : Int) + 1 ≠ 0 by omega); omega⟩
      have hkn : k ≤ n := by have := Int.emod_lt_of_pos a (show (0 : Int) < (n : Int) + 1 by omega); omega
      have HW := Lib.hid (fun W => within13_any a ((n : Int) + 1) (by omega) (by omega) ha W)
      rw [hk] at HW
      have HF := Lib.hid (fun (W : World) (hW : Below w.heap.size w W) => front_any p q A A2 n c n2 c2 w.heap.size W (h.below hW) (h2.below hW) (by omega) hc)
      have HR := Lib.hid (fun (W : World) (hW : Below w.heap.size w W) => rfront_any p q A A2 n c n2 c2 w.heap.size W (h.below hW) (h2.below hW) (by omega) (by omega))
      have HT := Lib.hid (fun (W : World) (hW : Below w.heap.size w W) => front_any p (p.take k) A A n c k c w.heap.size W (h.below hW) (sees_take (h.below hW) hkn) (by omega) hc)
      have HN := Lib.hid (fun (W : World) (hW : Below w.heap.size w W) => front_any p [] A none n c 0 0 w.heap.size W (h.below hW) ⟨rfl, fun j u hu => by simp at hu⟩ (by omega) hc)
      have HB := Lib.hid (fun (W : World) (hW : Below w.heap.size w W) => front_any (p.take k) p A A k c n c w.heap.size W (sees_take (h.below hW) hkn) (h.below hW) (by omega) (by omega))
      rw [fr_takeP] at HT
      rw [fr_nil] at HN
      rw [fr_back p k (by omega), ← hl] at HB
      obtain ⟨v, hv⟩ : ∃ v, v = fr p q := ⟨_, rfl⟩
      rw [← hv] at HF HR
      have hkc : (k : Int) ≤ (c : Int) := by omega
      have hk0 : (0 : Int) ≤ (k : Int) := by omega
      have hvv : (v == v) = true := by simp
      have H1 := Lib.hid h
      have H2 := Lib.hid h2
      have Hl := Lib.hid hl
      have Hl2 := Lib.hid hl2
      have Hc := Lib.hid hc
      have HK := Lib.hid hK
      clear hK hv h h2 hk hl hl2
      go_enter Try.func6, Try.ntmps6
      go_wp2_with fail
      (with_reducible refine HK.out.mono ?_)
      rintro e w1 ⟨rfl, hb1⟩
      have HB1 := Lib.hid hb1
      clear hb1
      go_wp2_with fail
      (with_reducible refine (HW.out _).mono ?_)
      rintro e _ ⟨rfl, rfl⟩
      go_wp2_with fail
      (with_reducible refine (HF.out _ HB1.out).mono ?_)
      rintro e w2 ⟨rfl, hw2⟩
      have HB2 := Lib.hid (show Below w.heap.size w w2 from by obtain ⟨d, hd⟩ := hw2; rw [hd]; exact below_drewN HB1.out d)
      clear hw2
      go_wp2_with fail
      (with_reducible refine (HR.out _ HB2.out).mono ?_)
      rintro e w3 ⟨rfl, hw3⟩
      have HB3 := Lib.hid (show Below w.heap.size w w3 from by obtain ⟨d, hd⟩ := hw3; rw [hd]; exact below_drewN HB2.out d)
      clear hw3
      go_wp2_with fail
      (with_reducible refine (HT.out _ HB3.out).mono ?_)
      rintro e w4 ⟨rfl, hw4⟩
      have HB4 := Lib.hid (show Below w.heap.size w w4 from by obtain ⟨d, hd⟩ := hw4; rw [hd]; exact below_drewN HB3.out d)
      clear hw4
      go_wp2_with fail
      (with_reducible refine (HN.out _ HB4.out).mono ?_)
      rintro e w5 ⟨rfl, hw5⟩
      have HB5 := Lib.hid (show Below w.heap.size w w5 from by obtain ⟨d, hd⟩ := hw5; rw [hd]; exact below_drewN HB4.out d)
      clear hw5
      have hba := HB5.out.alloc HB5.out.size (Obj.cells #[] 9)
      have hlit : (w5.alloc (Obj.cells #[] 9)).ownsRow w.heap.size 9 1 (.slice (some ⟨w5.heap.size, 0, none⟩) 0 0) 0 (strs []) := World.ownsRow_lit w5 #[] 0 HB5.out.size (by simp [maxLen]) rfl
      have Hsrc := Lib.hid (fun (W : World) (hW : Below w.heap.size w W) => src_sees (c := c) (H1.out.below hW))
      have Hsrc2 := Lib.hid (fun (W : World) (hW : Below w.heap.size w W) => src_sees (c := c2) (H2.out.below hW))
      clear hba
      go_wp2_with (first
        | (at_builtin; refine wpList_append_rowG (by rfl) (.tmp 42) (.tmp 43) _ _ rfl elem_str rfl rfl hlit (Hsrc.out _ (HB5.out.alloc HB5.out.size _)) (show 0 + n ≤ 1099511627776 by omega) (HB5.out.alloc HB5.out.size _).size ?_; intro A6 c6 w6 ho6 hg6 hat6; simp only [Nat.zero_add] at ho6; have HB6 := Lib.hid ((HB5.out.alloc HB5.out.size (Obj.cells #[] 9)).grown hg6 (HB5.out.alloc HB5.out.size (Obj.cells #[] 9)).size (fun q hq => (hlit.lt q hq).1)); have HO6 := Lib.hid (show w6.ownsRow w.heap.size 9 1 (.slice A6 n c6) n (strs p) from ho6); clear ho6 hg6 hat6)
        | (at_builtin; refine wpList_append_rowG (by rfl) (.tmp 44) (.tmp 45) _ _ rfl elem_str rfl rfl HO6.out (Hsrc2.out _ HB6.out) (show n + n2 ≤ 1099511627776 by omega) HB6.out.size ?_; intro A7 c7 w7 ho7 hg7 hat7; have HB7 := Lib.hid (HB6.out.grown hg7 HB6.out.size (fun q hq => (HO6.out.lt q hq).1)); have HO7 := Lib.hid (show w7.ownsRow w.heap.size 9 1 (.slice A7 (n + n2) c7) (n + n2) (strs (p ++ q)) from by rw [show strs (p ++ q) = strs p ++ strs q by simp [strs]]; exact ho7); clear ho7 hg7 hat7))
      have h7 := front_any (p ++ q) p A7 A (n + n2) c7 n c w7.heap.size w7 (own_seesV HO7.out) (seesV_more (H1.out.below HB7.out) HB7.out.size) (by omega) (own_cap HO7.out).1
      rw [fr_app] at h7
      (with_reducible refine h7.mono ?_)
      rintro e w8 ⟨rfl, hw8⟩
      have HB8 := Lib.hid (show Below w.heap.size w w8 from by obtain ⟨d, hd⟩ := hw8; rw [hd]; exact below_drewN HB7.out d)
      clear hw8 h7
      by_cases hkk : k = n
      · rw [decide_eq_true hkk] at HB
        have hki : ((k : Int) == (n : Int)) = true := by rw [hkk]; exact beq_self_eq_true _
        clear hkk
        go_wp2_with fail
        (with_reducible refine (HB.out _ HB8.out).mono ?_)
        rintro e w9 ⟨rfl, hw9⟩
        have HB9 := Lib.hid (show Below w.heap.size w w9 from by obtain ⟨d, hd⟩ := hw9; rw [hd]; exact below_drewN HB8.out d)
        clear hw9
        go_wp2_with fail
        go_ret
        exact ⟨rfl, HB9.out⟩
      · rw [decide_eq_false hkk] at HB
        have hki : ((k : Int) == (n : Int)) = false := by rw [beq_eq_false_iff_ne]; omega
        clear hkk
        go_wp2_with fail
        (with_reducible refine (HB.out _ HB8.out).mono ?_)
        rintro e w9 ⟨rfl, hw9⟩
        have HB9 := Lib.hid (show Below w.heap.size w w9 from by obtain ⟨d, hd⟩ := hw9; rw [hd]; exact below_drewN HB8.out d)
        clear hw9
        go_wp2_with fail
        go_ret
        exact ⟨rfl, HB9.out⟩
    · have hni : ¬ ((20 : Int) < (n : Int)) := by omega
      have hnl : ¬ (20 < n) := by omega
      have hn2i : (20 : Int) < (n2 : Int) := by omega
      have hnl2 : 20 < n2 := by omega
      have HK := Lib.hid hK
      clear hK h h2 hl hl2 hn hn2
      go_enter Try.func6, Try.ntmps6
      go_wp2_with fail
      (with_reducible refine HK.out.mono ?_)
      rintro e w1 ⟨rfl, hb1⟩
      have HB1 := Lib.hid hb1
      clear hb1
      go_wp2_with fail
      go_ret
      exact ⟨rfl, HB1.out⟩
  · have hni : (20 : Int) < (n : Int) := by omega
    have hnl : 20 < n := by omega
    have HK := Lib.hid hK
    clear hK h h2 hl hl2 hn
    go_enter Try.func6, Try.ntmps6
    go_wp2_with fail
    (with_reducible refine HK.out.mono ?_)
    rintro e w1 ⟨rfl, hb1⟩
    have HB1 := Lib.hid hb1
    clear hb1
    go_wp2_with fail
    go_ret
    exact ⟨rfl, HB1.out⟩
end Go.Proofs.Ytcfaocjgflefmaa.Df
