/- The reference's Put and Create of csv, of any tree into any file. Conditions: the tree's size; its names' sizes. -/
import Derived.Test.YtkgpjohfkfbfhaaGreatDoorRpPut
namespace Go.Proofs.YtkgpjohfkfbfhaaGreatDoor.Cv
open Go.RowKit Go.Proofs.YtkgpjohfkfbfhaaGreatDoor.Jd Go.Proofs.YtkgpjohfkfbfhaaGreatDoor.Li Go.Proofs.YtkgpjohfkfbfhaaGreatDoor.Cl Go.Proofs.YtkgpjohfkfbfhaaGreatDoor.Pt
set_option maxRecDepth 100000

set_option maxHeartbeats 4000000 in
theorem rput_bad (s : ByteArray) (R : Tr × Nat × Int) (A : Option Addr) (n c : Nat) (w : World) (hz : s.size ≤ 274877906944) (hR : readF s.data.toList = R) (he : R.2.2 ≠ 0) :
    Calls Tryz.prog 16 #[.slice A n c, .string s] w fun e w' => e = .returned (.tuple #[.string (mkB []), .int .i64 R.2.2]) ∧ Below w.heap.size w w' := by
  have HL := Lib.hid (rload_any s w hz)
  rw [hR] at HL
  obtain ⟨T, l, ee⟩ := R
  have he2 : (ee == 0) = false := beq_eq_false_iff_ne.2 he
  have he3 : (ee != 0) = true := bne_iff_ne.2 he
  clear he hR
  go_enter Tryz.func16, Tryz.ntmps16
  go_wp2_with fail
  (with_reducible refine HL.out.mono ?_)
  rintro e w1 ⟨At, nt, ct, rfl, _, _, _, hb⟩
  go_wp2_with fail
  refine bodyPost_ret (v := .tuple #[.string ⟨#[]⟩, .int .i64 ee]) (by simp [results, Tryz.results16, go_sem]) rfl ?_
  exact ⟨rfl, hb⟩
set_option maxHeartbeats 4000000 in
theorem rput_unfit (s : ByteArray) (T t : Tr) (A : Option Addr) (n c : Nat) (w : World) (hz : s.size ≤ 274877906944) (hR : readF s.data.toList = (T, 0, 0)) (he : fitsC t ≠ 0) (hsz : t.size ≤ 17179869184) (hnm : Tr.Nm t) (ht : OkT w A n c t) :
    Calls Tryz.prog 16 #[.slice A n c, .string s] w fun e w' => e = .returned (.tuple #[.string (mkB []), .int .i64 (fitsC t)]) ∧ Below w.heap.size w w' := by
  have HL := Lib.hid (rload_any s w hz)
  rw [hR] at HL
  have HFi := Lib.hid (fun (W : World) (hW : Below w.heap.size w W) => rfits_any t A n c W (ht.below hW).holds hsz hnm)
  obtain ⟨ee, hee⟩ : ∃ x, x = fitsC t := ⟨_, rfl⟩
  rw [← hee] at HFi he ⊢
  have he3 : (ee != 0) = true := bne_iff_ne.2 he
  clear he hR ht hee
  go_enter Tryz.func16, Tryz.ntmps16
  go_wp2_with fail
  (with_reducible refine HL.out.mono ?_)
  rintro e w1 ⟨At, nt, ct, rfl, _, _, _, hb⟩
  have HB := Lib.hid hb
  have HF1 := Lib.hid (HFi.out w1 hb)
  clear hb
  go_wp2_with fail
  (with_reducible refine HF1.out.mono ?_)
  rintro e w2 ⟨rfl, hb2⟩
  have HB2 := Lib.hid (HB.out.trans (hb2.mono HB.out.size))
  clear hb2
  go_wp2_with fail
  refine bodyPost_ret (v := .tuple #[.string ⟨#[]⟩, .int .i64 ee]) (by simp [results, Tryz.results16, go_sem]) rfl ?_
  exact ⟨rfl, HB2.out⟩
theorem rputR_any (s : ByteArray) (t : Tr) (A : Option Addr) (n c : Nat) (w : World) (hz : s.size ≤ 274877906944) (hsz : t.size ≤ 17179869184) (hnm : Tr.Nm t) (ht : OkT w A n c t) :
    Calls Tryz.prog 16 #[.slice A n c, .string s] w fun e w' => e = .returned (.tuple #[.string (mkB (putR t s.data.toList).1), .int .i64 (putR t s.data.toList).2]) ∧ Below w.heap.size w w' := by
  by_cases h1 : (readF s.data.toList).2.2 ≠ 0
  · have e : putR t s.data.toList = ([], (readF s.data.toList).2.2) := by unfold putR; rw [if_pos h1]
    rw [e]
    exact rput_bad s _ A n c w hz rfl h1
  have h1' : (readF s.data.toList).2.2 = 0 := Decidable.not_not.1 h1
  obtain ⟨hl, h0, hd, x0, xl, rs, hr, hh⟩ := read_inv h1'
  obtain ⟨R, hR⟩ : ∃ R, R = readF s.data.toList := ⟨_, rfl⟩
  have h1 : ¬ R.2.2 ≠ 0 := by rw [hR]; exact h1
  rw [← hR] at h1' h0
  obtain ⟨T, i, z⟩ := R
  dsimp only at h1' h0
  subst h1'; subst h0
  by_cases h2 : fitsC t ≠ 0
  · have e : putR t s.data.toList = ([], fitsC t) := by unfold putR; rw [← hR, if_neg h1, if_pos h2]
    rw [e]
    exact rput_unfit s T t A n c w hz hR.symm h2 hsz hnm ht
  have h2' : fitsC t = 0 := Decidable.not_not.1 h2
  have e : hd.fs.tail = xl := by rw [hh]; rfl
  refine rput_sound s hd x0 xl rs T t A n c w hl hR.symm hr hh h2' hsz hnm ht _ ?_
  unfold putR
  rw [← hR, if_neg h1, if_neg h2, hr]
  dsimp only
  rw [e]
theorem rcreateR_any (t : Tr) (A : Option Addr) (n c : Nat) (w : World) (hsz : t.size ≤ 17179869184) (hnm : Tr.Nm t) (ht : OkT w A n c t) :
    Calls Tryz.prog 18 #[.slice A n c] w fun e w' => e = .returned (.tuple #[.string (mkB (putR t [107, 101, 121, 10]).1), .int .i64 (putR t [107, 101, 121, 10]).2]) ∧ Below w.heap.size w w' := by
  have HP := Lib.hid (rputR_any ⟨#[107, 101, 121, 10]⟩ t A n c w (by decide) hsz hnm ht)
  rw [show (ByteArray.mk #[107, 101, 121, 10]).data.toList = [107, 101, 121, 10] from rfl] at HP
  obtain ⟨z, hz⟩ : ∃ z, z = putR t [107, 101, 121, 10] := ⟨_, rfl⟩
  rw [← hz] at HP ⊢
  clear hz ht
  go_enter Tryz.func18, Tryz.ntmps18
  go_wp2_with fail
  (with_reducible refine HP.out.mono ?_)
  rintro e w1 ⟨rfl, hb⟩
  go_wp2_with fail
  refine bodyPost_ret (v := .tuple #[.string (mkB z.1), .int .i64 z.2]) (by simp [results, Tryz.results18, go_sem]) rfl ?_
  exact ⟨rfl, hb⟩
end Go.Proofs.YtkgpjohfkfbfhaaGreatDoor.Cv
