/- commit: the journal is written. No conditions but that there are few files. -/
import Derived.Test.YtpaaafdnkehmfaaCmChk
import Derived.Test.YtpaaafdnkehmfaaVfLem
import Derived.Test.YtpaaafdnkehmfaaPutText
namespace Go.Proofs.Ytpaaafdnkehmfaa.Vf
open Go.RowKit
set_option maxRecDepth 100000

theorem textB_tx {b : BS} (h : b.length ≤ 65535) : textB (⟨b.toArray⟩ : ByteArray) = tx b := by
  have e : cutText (⟨b.toArray⟩ : ByteArray) = b := (cutText_short (s := ⟨b.toArray⟩) (by show b.toArray.size ≤ _; rw [List.size_toArray]; exact h)).trans rfl
  unfold textB tx
  rw [e]
theorem wr_next {l : FL} {k : Nat} {x : BS × BS} (h : l[k]? = some x) : wrL (l.take (k + 1)) = wrL (l.take k) ++ tx x.1 ++ tx x.2 := by
  obtain ⟨hk, rfl⟩ := List.getElem?_eq_some_iff.1 h
  rw [List.take_succ_eq_append_getElem hk, wrL_app, List.append_assoc]
  simp [wrL]
theorem wrL_le {l : FL} (h : Szl l) (k : Nat) : (wrL (l.take k)).length ≤ 64192 := by
  have h1 := okl_wrL_le (l := l) (m := l.take k) fun x hx => h.size x (List.mem_of_mem_take hx)
  have h2 : (l.take k).length ≤ 8 := by rw [List.length_take]; have := h.cnt; omega
  omega
set_option maxHeartbeats 4000000 in
theorem written_any (l : FL) (A : Option Addr) (n c : Nat) (w : World) (h : Fr w (fun g => g < w.heap.size) A n l) (hz : Szl l) :
    Calls Try.prog 55 #[.slice A n c] w fun e w' => ∃ A' N c', e = .returned (.slice A' N c') ∧ Own w' w.heap.size A' N c' (wr l) ∧ Below w.heap.size w w' := by
  have hn8 : n ≤ 8 := by have := h.len; have := hz.cnt; omega
  have hby := putByte_any none 0 0 [] (n : Int) w (Sees.none_ _ _ _) (by decide)
  rw [List.nil_append, show (((n : Int) % 256).toNat) = n by omega] at hby
  have HH := Lib.hid h
  have HZ := Lib.hid hz
  have HBY := Lib.hid hby
  clear h hz hby
  go_enter Try.func55, Try.ntmps55
  go_upto_region 3 with (go_at_call 69; (with_reducible refine HBY.out.mono ?_); rintro e w1 ⟨A1, n1, c1, rfl, ho1, hb1⟩; have HO1 := Lib.hid ho1; have HB1 := Lib.hid hb1; clear ho1 hb1)
  go_loopw [3, 11] (fun s i wr => ∃ (k : Nat) (A' : Option Addr) (N c' : Nat), k ≤ n ∧ i = .int .i64 (k : Int) ∧ s = .slice A' N c' ∧ Hid (Own wr w.heap.size A' N c' (leB 1 n ++ wrL (l.take k))) ∧ Hid (Below w.heap.size w wr)) (fun _ i _ => n - (intOf i).toNat)
  case atStart => exact ⟨0, A1, n1, c1, Nat.zero_le _, rfl, rfl, Lib.hid (by rw [show wrL (l.take 0) = [] from rfl, List.append_nil]; exact HO1.out), HB1⟩
  case round =>
    obtain ⟨k, A', N, c', hk, rfl, rfl, HO, HB⟩ := hrel
    by_cases hlt : k < n
    · have hkl : k < l.length := by have := HH.out.len; omega
      obtain ⟨⟨s, xb⟩, hx⟩ : ∃ x, l[k]? = some x := ⟨_, List.getElem?_eq_getElem hkl⟩
      have hF := HH.out.below HB.out
      obtain ⟨b, o, Af, nf, cf, rfl, hbl, hc1, hc2, hsf, _, hcm⟩ := hF.at_ k (s, xb) hx
      have hlen : nf = xb.length := hsf.len
      subst hlen
      simp only at hc1 hc2 hsf
      have hsz := HZ.out.size (s, xb) (List.mem_of_getElem? hx)
      simp only at hsz
      have hkn : (k : Int) < (n : Int) := by omega
      have hk0 : (0 : Int) ≤ (k : Int) := by omega
      have hnx := wr_next hx
      simp only at hnx
      have hle := wrL_le HZ.out k
      have hNl := HO.out.len
      rw [List.length_append, leB_length] at hNl
      obtain ⟨W1, hW1⟩ : ∃ W, W = wr.alloc (Obj.cells #[.string ⟨s.toArray⟩, .slice Af xb.length cf] 56) := ⟨_, rfl⟩
      have hb1 : Below wr.heap.size wr W1 := by rw [hW1]; exact (Below.refl _ _).alloc (Nat.le_refl _) _
      have hx1 : Bx W1 wr.heap.size [.string ⟨s.toArray⟩, .slice Af xb.length cf] 56 := by rw [hW1]; exact Bx.new wr _ _
      have z1 : W1.cell? ⟨wr.heap.size, 1, none⟩ = some (.slice Af xb.length cf) := hx1.cells 1
      have hl1 : wr.heap.size < W1.heap.size := hx1.lt
      have ht1 := putText_any A' N c' (leB 1 n ++ wrL (l.take k)) ⟨s.toArray⟩ W1 ((HO.out.keep hb1).sees) (by omega) (by show s.toArray.size ≤ _; rw [List.size_toArray]; unfold maxLen; omega)
      rw [textB_tx (by omega)] at ht1
      have hw1 : Below w.heap.size w W1 := HB.out.trans (hb1.mono HB.out.size)
      have hsf2 : ∀ W, Below W1.heap.size W1 W → (convert 31 9 (.slice Af xb.length cf)).run Try.prog W = .ok (.string ⟨xb.toArray⟩) W := fun W hW => text_run ((hsf.below (hb1.mono HB.out.size)).below (hW.mono hw1.size) |>.sees fun _ h => h)
      have ht2 : ∀ W A2 N2 c2, Below W1.heap.size W1 W → Own W W1.heap.size A2 N2 c2 (leB 1 n ++ wrL (l.take k) ++ tx s) → Calls Try.prog 70 #[.slice A2 N2 c2, .string ⟨xb.toArray⟩] W fun e w' =>
          ∃ A' N c', e = .returned (.slice A' N c') ∧ Own w' W.heap.size A' N c' (leB 1 n ++ wrL (l.take (k + 1))) ∧ Below W.heap.size W w' := fun W A2 N2 c2 hW ho => by
        have hN2 := ho.len
        simp only [List.length_append, leB_length, tx_length] at hN2
        have h := putText_any A2 N2 c2 _ ⟨xb.toArray⟩ W ho.sees (by omega) (by show xb.toArray.size ≤ _; rw [List.size_toArray]; unfold maxLen; omega)
        rw [textB_tx (by omega)] at h
        rw [hnx]
        simpa only [List.append_assoc] using h
      have HT1 := Lib.hid ht1
      have HT2 := Lib.hid ht2
      have HW1 := Lib.hid hw1
      have HSF := Lib.hid hsf2
      have HLT := Lib.hid hlt
      clear ht1 ht2 hw1 hsf2 hlt hx hx1 hb1 hF hsf hcm hnx hle hNl HO hkl hsz
      subst hW1
      go_upto_region 6 with (go_at_call 70; (with_reducible refine HT1.out.mono ?_); rintro e w2 ⟨A2, N2, c2, rfl, ho2, hb2⟩; have HO2 := Lib.hid ho2; have HB2 := Lib.hid hb2; have y1 := (hb2.cell (p := ⟨wr.heap.size, 1, none⟩) hl1).trans z1; have hcv := HSF.out _ hb2; clear ho2 hb2)
      go_wp2_with (go_at_call 70; (with_reducible refine (HT2.out _ _ _ _ HB2.out HO2.out).mono ?_); rintro e w3 ⟨A3, N3, c3, rfl, ho3, hb3⟩; have HO3 := Lib.hid ho3; have HB3 := Lib.hid hb3; clear ho3 hb3)
      go_roundw
      case rel =>
        have hle2 : w.heap.size ≤ w2.heap.size := Nat.le_trans HW1.out.size HB2.out.size
        exact ⟨k + 1, A3, N3, c3, HLT.out, by go_num, rfl, Lib.hid (HO3.out.less hle2), Lib.hid ((HW1.out.trans (HB2.out.mono HW1.out.size)).trans (HB3.out.mono hle2))⟩
      case measure => have := HLT.out; simp [intOf]; omega
    · obtain rfl : k = n := by omega
      have hkn : ¬ (k : Int) < (k : Int) := by omega
      have e : l.take k = l := List.take_of_length_le (by rw [← HH.out.len]; exact Nat.le_refl _)
      have HE : Hid (leB 1 k ++ wrL (l.take k) = Vf.wr l) := Lib.hid (by rw [e, Vf.wr, ← HH.out.len])
      clear e
      go_wp2_with fail
      go_ret
      exact ⟨A', N, c', rfl, by rw [← HE.out]; exact HO.out, HB.out⟩
end Go.Proofs.Ytpaaafdnkehmfaa.Vf
