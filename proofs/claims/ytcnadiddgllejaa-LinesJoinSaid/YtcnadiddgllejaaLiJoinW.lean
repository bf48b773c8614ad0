/- LinesJoin's walk. No conditions. -/
import Derived.Test.YtcnadiddgllejaaLiSplitW
namespace Go.Proofs.Ytcnadiddgllejaa.Li
open Go.RowKit
set_option maxRecDepth 100000

theorem split_two (t u : ByteArray) : split ((t ++ ⟨#[10]⟩) ++ u).data.toList = split (t ++ ⟨#[10]⟩).data.toList ++ split u.data.toList := by
  have e1 : (t ++ (⟨#[10]⟩ : ByteArray)).data.toList = t.data.toList ++ [10] := by rw [ByteArray.data_append, Array.toList_append]
  have e2 : ((t ++ (⟨#[10]⟩ : ByteArray)) ++ u).data.toList = t.data.toList ++ 10 :: u.data.toList := by rw [ByteArray.data_append, Array.toList_append, e1]; simp
  rw [e1, e2, split_append]
theorem lit_none (w : World) (base : Nat) (hb : base ≤ w.heap.size) : OwnL (w.alloc (.cells #[] 34)) base (some ⟨w.heap.size, 0, none⟩) 0 0 [] := by
  have h := World.ownsRow_lit (base := base) (e := 34) (size := 2) w #[] 0 hb (by simp [maxLen]) (by simp)
  simpa [OwnL, lcells] using h

set_option maxHeartbeats 4000000 in
theorem joins_walk (A : Option Addr) (n c : Nat) (l : List Int) (A2 : Option Addr) (n2 c2 : Nat) (l2 : List Int) (w : World) (h : SeesV w w.heap.size A n (l.map (Value.int .i64))) (hr : ∀ x ∈ l, -9223372036854775808 ≤ x ∧ x ≤ 9223372036854775807) (hc : n ≤ c) (hm : c ≤ maxLen)
    (h2 : SeesV w w.heap.size A2 n2 (l2.map (Value.int .i64))) (hr2 : ∀ x ∈ l2, -9223372036854775808 ≤ x ∧ x ≤ 9223372036854775807) (hc2 : n2 ≤ c2) (hm2 : c2 ≤ maxLen) :
    Calls Try.prog 6 #[.slice A n c, .slice A2 n2 c2] w fun e w' => e = .returned (.bool true) ∧ Below w.heap.size w w' := by
  have HT := Lib.hid (fun W (hb : Below w.heap.size w W) => text_any A n c l W (SeesV.more hb.size (h.below hb)) hr hc hm)
  have HT2 := Lib.hid (fun W (hb : Below w.heap.size w W) => text_any A2 n2 c2 l2 W (SeesV.more hb.size (h2.below hb)) hr2 hc2 hm2)
  have HK := Lib.hid (fun W => known_any W)
  clear h hr hc hm h2 hr2 hc2 hm2
  go_enter Try.func6, Try.ntmps6
  go_wp2_with fail
  (with_reducible refine (HK.out _).mono ?_)
  rintro e w1 ⟨rfl, hb1⟩
  go_wp2_with fail
  (with_reducible refine (HT.out _ hb1).mono ?_)
  rintro e w2 ⟨t, ht, rfl, hb2⟩
  have hb12 := hb1.trans (hb2.mono hb1.size)
  have hadd := fun W => run_string_add_sum (P := Try.prog) (w := W) t ⟨#[10]⟩ (by have : (⟨#[10]⟩ : ByteArray).size = 1 := rfl; omega)
  have hta : (t ++ (⟨#[10]⟩ : ByteArray)).size = t.size + 1 := ByteArray.size_append
  obtain ⟨a, ha⟩ : ∃ a, a = t ++ (⟨#[10]⟩ : ByteArray) := ⟨_, rfl⟩
  rw [← ha] at hta hadd
  have Hta := Lib.hid hta
  have Ha := Lib.hid ha
  clear hb1 hb2 hta ha
  go_wp2_with fail
  (with_reducible refine (HT2.out _ hb12).mono ?_)
  rintro e w3 ⟨u, hu, rfl, hb3⟩
  have hb13 := hb12.trans (hb3.mono hb12.size)
  clear hb12 hb3 hadd
  have hadd := fun W => run_string_add_sum (P := Try.prog) (w := W) a u (by have := Hta.out; omega)
  have hau : (a ++ u).size = a.size + u.size := ByteArray.size_append
  have hsp := split_two t u
  rw [← Ha.out] at hsp
  obtain ⟨b, hb⟩ : ∃ b, b = a ++ u := ⟨_, rfl⟩
  rw [← hb] at hau hadd hsp
  obtain ⟨la, hla⟩ : ∃ ls, ls = split a.data.toList := ⟨_, rfl⟩
  obtain ⟨lu, hlu⟩ : ∃ ls, ls = split u.data.toList := ⟨_, rfl⟩
  rw [← hla, ← hlu] at hsp
  obtain ⟨lx, hlx⟩ : ∃ ls, ls = la ++ lu := ⟨_, rfl⟩
  rw [← hlx] at hsp
  have Hlx := Lib.hid hlx
  clear hlx
  have HRa := Lib.hid (fun W => split_any a W (by have := Hta.out; omega))
  have HRu := Lib.hid (fun W => split_any u W (by omega))
  have HRb := Lib.hid (fun W => split_any b W (by have := Hta.out; omega))
  rw [← hla] at HRa
  rw [← hlu] at HRu
  rw [hsp] at HRb
  have hl1 := split_len a
  have hl2 := split_len u
  have hjb := join_bytes b
  have hjl := join_len b
  rw [← hla] at hl1
  rw [← hlu] at hl2
  rw [hsp] at hjb hjl
  have Hl1 := Lib.hid hl1
  have Hl2 := Lib.hid hl2
  have Hjb := Lib.hid hjb
  have Hjl := Lib.hid hjl
  have Hau := Lib.hid hau
  clear hl1 hl2 hjb hjl hau hb hsp hla hlu
  go_wp2_with fail
  (with_reducible refine (HRa.out _).mono ?_)
  rintro e w4 ⟨B1, d1, rfl, ho1, hb4⟩
  have hp0 := (lit_none w3 w3.heap.size (Nat.le_refl _)).below hb4
  have hsz4 : w3.heap.size + 1 ≤ w4.heap.size := by have := hb4.size; simpa using this
  have hn1 : 0 + la.length ≤ 1099511627776 := by have := Hl1.out; have := Hta.out; omega
  have hsrc1 := ho1.sees.src (c := d1)
  go_wp2_with (at_builtin; refine wpList_append_row rfl (.tmp 15) (.tmp 17) _ _ rfl elem_line rfl rfl hp0 hsrc1 hn1 (by omega) ?_; intro B2 d2 w5 ho2 hg2 hat2)
  rw [Nat.zero_add] at ho2
  have ho2 : w5.ownsRow w3.heap.size 34 2 (.slice B2 la.length d2) la.length (lcells la) := ho2
  have hb35 : Below w3.heap.size w3 w5 := by
    have e1 : Below w3.heap.size w3 w4 := ((Below.refl _ _).alloc (Nat.le_refl _) _).trans (hb4.mono (by simp))
    exact e1.grown hg2 e1.size (fun k hk => by simp only [Value.ownBlock, Option.some.injEq] at hk; omega)
  have hs5 := hb35.size
  clear hp0 hg2 hat2 hsrc1 ho1 hb4 hsz4 hn1
  (with_reducible refine (HRu.out _).mono ?_)
  rintro e w6 ⟨B3, d3, rfl, ho3, hb6⟩
  have ho26 : OwnL w6 w3.heap.size B2 la.length d2 la := OwnL.below ho2 hb6
  have hn2 : la.length + lu.length ≤ 1099511627776 := by have := Hl1.out; have := Hl2.out; have := Hta.out; omega
  have hsrc2 := ho3.sees.src (c := d3)
  have hs6 := hb6.size
  go_wp2_with (at_builtin; refine wpList_append_row rfl (.tmp 18) (.tmp 20) _ _ rfl elem_line rfl rfl ho26 hsrc2 hn2 (by omega) ?_; intro B4 d4 w7 ho4 hg4 hat4)
  rw [← lcells_append, ← Hlx.out] at ho4
  have hb37 : Below w3.heap.size w3 w7 := by
    have e1 : Below w3.heap.size w3 w6 := hb35.trans (hb6.mono hb35.size)
    exact e1.grown hg4 e1.size (fun k hk => (ho26.lt k hk).1)
  obtain ⟨N, hN⟩ : ∃ N, N = la.length + lu.length := ⟨_, rfl⟩
  rw [← hN] at ho4 hn2
  have ho5 : OwnL w7 w3.heap.size B4 N d4 lx := ho4
  have hin := ho5.sees
  have hNl : lx.length = N := by rw [Hlx.out, List.length_append, hN]
  have HN := Lib.hid hNl
  have HS := Lib.hid (fun W E2 e2 (hb : Below w7.heap.size w7 W) (h2 : SeesL W W.heap.size E2 lx.length lx) => same_any lx E2 B4 lx.length e2 N d4 W.heap.size W (Nat.le_refl _) h2 ((hin.below hb).more hb.size) (by rw [HN.out]; exact hn2))
  have HJ := Lib.hid (fun W (hb : Below w7.heap.size w7 W) => join_any lx B4 N d4 W.heap.size W (Nat.le_refl _) ((hin.below hb).more hb.size) hn2 (by have := Hjl.out; have := Hau.out; have := Hta.out; omega))
  rw [Hjb.out] at HJ
  have HJ0 := Lib.hid (fun W => join_any [] none 0 0 0 W (Nat.zero_le _) (SeesL.nil _ _ _) (by omega) (by simp [join]))
  have e0 : encs (join []) = .string ⟨#[]⟩ := rfl
  rw [e0] at HJ0
  clear e0 ho4 hg4 hat4 hsrc2 ho3 hb6 ho26 ho2 hb35 hs5 hs6 hin hNl ho5
  simp only [← hN]
  clear hN
  go_wp2_with fail
  (with_reducible refine (HRb.out _).mono ?_)
  rintro e w8 ⟨B5, d5, rfl, ho8, hb8⟩
  have hin8 := ho8.sees
  go_wp2_with fail
  (with_reducible refine (HS.out _ _ _ hb8 hin8).mono ?_)
  rintro e w9 ⟨rfl, hb9⟩
  have hb79 := hb8.trans (hb9.mono hb8.size)
  go_wp2_with fail
  (with_reducible refine (HJ.out _ hb79).mono ?_)
  rintro e w10 ⟨rfl, hb10⟩
  go_wp2_with fail
  (with_reducible refine (HJ0.out _).mono ?_)
  rintro e w11 ⟨rfl, hb11⟩
  go_wp2_with fail
  go_ret
  have f1 := hb10.trans (hb11.mono hb10.size)
  have f2 := hb79.trans (f1.mono hb79.size)
  exact ⟨rfl, (hb13.trans (hb37.mono hb13.size)).trans (f2.mono (by have := hb13.size; have := hb37.size; omega))⟩
end Go.Proofs.Ytcnadiddgllejaa.Li
