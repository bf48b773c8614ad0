/- csv.Load: what a file is loaded as; the closed readings. Conditions: texts of ASCII bytes in its fields; MaxLen's cell. csv's closed readings. No conditions. csv's laws: a number within a bound; the chapter's example; what a tree's text is. Conditions: MaxLen's cell. -/
import Derived.Test.YtlojjmmjmpffnaaGreatDoorCvRead
import Derived.Test.YtlojjmmjmpffnaaGreatDoorMgWt
import Derived.Test.YtlojjmmjmpffnaaGreatDoorWithW
import Derived.Deep.RegionHeld3
import Derived.Deep.CutRange
namespace Go.Proofs.YtlojjmmjmpffnaaGreatDoor.Cv
open Go.RowKit Go.Proofs.YtlojjmmjmpffnaaGreatDoor.Jd Go.Proofs.YtlojjmmjmpffnaaGreatDoor.Li Go.Proofs.YtlojjmmjmpffnaaGreatDoor.Cl
set_option maxRecDepth 100000

/-- What Load answers. -/
def LoadP (w : World) (o : Tr × Nat × Int) (en : Ending) (w' : World) : Prop :=
  ∃ At ct, en = .returned (.tuple #[.slice At o.1.len ct, .int .i64 (o.2.1 : Nat), .int .i64 o.2.2]) ∧ HoldsP w' (fun b => w.heap.size ≤ b ∧ b < w'.heap.size) At o.1.len o.1 ∧ (o.1.len ≤ ct ∧ ct ≤ maxLen) ∧ Below w.heap.size w w'

theorem load_any (s : ByteArray) (w : World) (hp : ∀ x ∈ split s.data.toList, ∀ z ∈ mns (fldsL x.1), Pl z) (hG : Gl w) :
    Calls Tryz.prog 10 #[.string s] w (LoadP w (readF s.data.toList)) := by
  have HR := Lib.hid (read_any s w hp hG)
  obtain ⟨R, hR⟩ : ∃ R, R = readF s.data.toList := ⟨_, rfl⟩
  rw [← hR] at HR ⊢
  clear hR hp hG
  go_enter Tryz.func10, Tryz.ntmps10
  go_wp2_with fail
  (with_reducible refine HR.out.mono ?_)
  rintro e w1 ⟨Ah, Ar, At, nh, ch, nr, cr, ct, ee, rfl, hrd, hb⟩
  go_wp2_with fail
  refine bodyPost_ret (v := .tuple #[.slice At R.1.len ct, .int .i64 (R.2.1 : Nat), .int .i64 R.2.2]) (by simp [results, Tryz.results10, go_sem]) rfl ?_
  have hb1 := fun o : Obj => (Below.refl w1.heap.size w1).alloc (Nat.le_refl _) o
  exact ⟨At, ct, rfl, (hrd.below (hb1 _)).tree, hrd.cap, hb.trans ((hb1 _).mono hb.size)⟩

/-- Its fields are of ASCII bytes. -/
def plB (l : Bs) : Bool := (split l).all fun x => (mns (fldsL x.1)).all fun z => z.data.toList.all fun b => decide (b.toNat < 128)
theorem plB_pl {l : Bs} (h : plB l = true) : ∀ x ∈ split l, ∀ z ∈ mns (fldsL x.1), Pl z := fun x hx z hz j b hb => by
  have h1 := List.all_eq_true.1 h x hx
  have h2 := List.all_eq_true.1 h1 z hz
  have h3 := List.all_eq_true.1 h2 b (List.mem_of_getElem? hb)
  simpa using h3
theorem readF_ok {l : Bs} {T : Tr} {h : Rw} {t : List Rw} (h1 : l.length ≤ 4000) (h2 : rowsF [] 0 (split l) = (h :: t, 0, 0)) (h3 : treeR (h :: t) = T) (h4 : T.fault = 0) : readF l = (T, 0, 0) := by
  unfold readF
  rw [if_neg (by omega), h2, if_neg (by simp)]
  simp only
  rw [h3, if_neg (by simp [h4])]
theorem readF_no {l : Bs} {q : List Rw} {i : Nat} {e : Int} (h1 : l.length ≤ 4000) (h2 : rowsF [] 0 (split l) = (q, i, e)) (h3 : e ≠ 0) : readF l = (.nil, i, e) := by
  unfold readF
  rw [if_neg (by omega), h2, if_pos h3]
theorem tree0 (h : Rw) : treeR [h] = .nil := srtE_one (by simp [recsT, Tr.len])
theorem tree1 (h r : Rw) (hl : (rawB (colsR h) (mns r.fs.tail)).len ≤ 1) : treeR [h, r] = .cons (nm r) (rawB (colsR h) (mns r.fs.tail)) .nil := by
  show srtE (recsT srtE (colsR h) [r]) = _
  rw [srtE_one (by simp [recsT, Tr.len])]
  simp only [recsT]
  rw [srtE_one hl]
end Go.Proofs.YtlojjmmjmpffnaaGreatDoor.Cv

namespace Go.Proofs.YtlojjmmjmpffnaaGreatDoor.Cv
open Go.RowKit Go.Proofs.YtlojjmmjmpffnaaGreatDoor.Jd Go.Proofs.YtlojjmmjmpffnaaGreatDoor.Li Go.Proofs.YtlojjmmjmpffnaaGreatDoor.Cl
set_option maxRecDepth 100000

instance rwEq : DecidableEq Rw := fun a b =>
  if h : a.fs = b.fs ∧ a.en = b.en then isTrue (by cases a; cases b; cases h.1; cases h.2; rfl) else isFalse (fun hab => h (by cases hab; exact ⟨rfl, rfl⟩))

def T1 : Tr := (.cons ⟨#[120]⟩ (.cons ⟨#[97]⟩ (.cons ⟨#[49]⟩ .nil .nil) .nil) .nil)
def T2 : Tr := (.cons ⟨#[120]⟩ .nil .nil)
def T3 : Tr := (.cons ⟨#[120, 44]⟩ (.cons ⟨#[97, 44, 34, 98]⟩ (.cons ⟨#[32, 121, 32]⟩ .nil .nil) .nil) .nil)
theorem pl_kn : plB [107, 101, 121, 44, 97, 10, 120, 44, 49, 10] = true := by decide +kernel
theorem rw_kn : rowsF [] 0 (split [107, 101, 121, 44, 97, 10, 120, 44, 49, 10]) = ([⟨[([107, 101, 121], [107, 101, 121]), ([97], [97])], ⟨#[10]⟩⟩, ⟨[([120], [120]), ([49], [49])], ⟨#[10]⟩⟩], 0, 0) := by decide +kernel
theorem rd_kn : readF [107, 101, 121, 44, 97, 10, 120, 44, 49, 10] = (T1, 0, 0) := readF_ok (by decide) rw_kn ((tree1 _ _ (by decide +kernel)).trans (by rfl)) (by decide +kernel)
theorem pl_k0 : plB [107, 101, 121, 10] = true := by decide +kernel
theorem rw_k0 : rowsF [] 0 (split [107, 101, 121, 10]) = ([⟨[([107, 101, 121], [107, 101, 121])], ⟨#[10]⟩⟩], 0, 0) := by decide +kernel
theorem rd_k0 : readF [107, 101, 121, 10] = (.nil, 0, 0) := readF_ok (by decide) rw_k0 (tree0 _) (by decide +kernel)
theorem pl_k1 : plB [34, 107, 101, 121, 34, 44, 97, 13, 10, 120, 44, 49, 13, 10] = true := by decide +kernel
theorem rw_k1 : rowsF [] 0 (split [34, 107, 101, 121, 34, 44, 97, 13, 10, 120, 44, 49, 13, 10]) = ([⟨[([34, 107, 101, 121, 34], [107, 101, 121]), ([97], [97])], ⟨#[13, 10]⟩⟩, ⟨[([120], [120]), ([49], [49])], ⟨#[13, 10]⟩⟩], 0, 0) := by decide +kernel
theorem rd_k1 : readF [34, 107, 101, 121, 34, 44, 97, 13, 10, 120, 44, 49, 13, 10] = (T1, 0, 0) := readF_ok (by decide) rw_k1 ((tree1 _ _ (by decide +kernel)).trans (by rfl)) (by decide +kernel)
theorem pl_k2 : plB [107, 101, 121, 44, 97, 44, 98, 10, 120, 44, 44, 34, 34, 10] = true := by decide +kernel
theorem rw_k2 : rowsF [] 0 (split [107, 101, 121, 44, 97, 44, 98, 10, 120, 44, 44, 34, 34, 10]) = ([⟨[([107, 101, 121], [107, 101, 121]), ([97], [97]), ([98], [98])], ⟨#[10]⟩⟩, ⟨[([120], [120]), ([], []), ([34, 34], [])], ⟨#[10]⟩⟩], 0, 0) := by decide +kernel
theorem rd_k2 : readF [107, 101, 121, 44, 97, 44, 98, 10, 120, 44, 44, 34, 34, 10] = (T2, 0, 0) := readF_ok (by decide) rw_k2 ((tree1 _ _ (by decide +kernel)).trans (by rfl)) (by decide +kernel)
theorem pl_k3 : plB [107, 101, 121, 44, 34, 97, 44, 34, 34, 98, 34, 10, 34, 120, 44, 34, 44, 32, 121, 32, 10] = true := by decide +kernel
theorem rw_k3 : rowsF [] 0 (split [107, 101, 121, 44, 34, 97, 44, 34, 34, 98, 34, 10, 34, 120, 44, 34, 44, 32, 121, 32, 10]) = ([⟨[([107, 101, 121], [107, 101, 121]), ([34, 97, 44, 34, 34, 98, 34], [97, 44, 34, 98])], ⟨#[10]⟩⟩, ⟨[([34, 120, 44, 34], [120, 44]), ([32, 121, 32], [32, 121, 32])], ⟨#[10]⟩⟩], 0, 0) := by decide +kernel
theorem rd_k3 : readF [107, 101, 121, 44, 34, 97, 44, 34, 34, 98, 34, 10, 34, 120, 44, 34, 44, 32, 121, 32, 10] = (T3, 0, 0) := readF_ok (by decide) rw_k3 ((tree1 _ _ (by decide +kernel)).trans (by rfl)) (by decide +kernel)
theorem pl_k4 : plB [107, 101, 121, 44, 97] = true := by decide +kernel
theorem rw_k4 : rowsF [] 0 (split [107, 101, 121, 44, 97]) = ([⟨[([107, 101, 121], [107, 101, 121]), ([97], [97])], ⟨#[]⟩⟩], 0, 0) := by decide +kernel
theorem rd_k4 : readF [107, 101, 121, 44, 97] = (.nil, 0, 0) := readF_ok (by decide) rw_k4 (tree0 _) (by decide +kernel)
theorem pl_k5 : plB [] = true := by decide +kernel
theorem rd_k5 : readF [] = (.nil, 0, 2) := by rfl
theorem pl_k6 : plB [110, 97, 109, 101, 44, 97, 10] = true := by decide +kernel
theorem rd_k6 : readF [110, 97, 109, 101, 44, 97, 10] = (.nil, 1, 6) := readF_no (q := []) (by decide) (by decide +kernel) (by decide)
theorem pl_k7 : plB [107, 101, 121, 44, 97, 44, 97, 10] = true := by decide +kernel
theorem rd_k7 : readF [107, 101, 121, 44, 97, 44, 97, 10] = (.nil, 1, 7) := readF_no (q := []) (by decide) (by decide +kernel) (by decide)
theorem pl_k8 : plB [107, 101, 121, 44, 107, 101, 121, 10] = true := by decide +kernel
theorem rd_k8 : readF [107, 101, 121, 44, 107, 101, 121, 10] = (.nil, 1, 6) := readF_no (q := []) (by decide) (by decide +kernel) (by decide)
theorem pl_k9 : plB [107, 101, 121, 44, 10] = true := by decide +kernel
theorem rd_k9 : readF [107, 101, 121, 44, 10] = (.nil, 1, 6) := readF_no (q := []) (by decide) (by decide +kernel) (by decide)
theorem pl_k10 : plB [107, 101, 121, 44, 97, 10, 120, 10] = true := by decide +kernel
theorem rd_k10 : readF [107, 101, 121, 44, 97, 10, 120, 10] = (.nil, 2, 6) := readF_no (q := []) (by decide) (by decide +kernel) (by decide)
theorem pl_k11 : plB [107, 101, 121, 44, 97, 10, 120, 44, 49, 44, 50, 10] = true := by decide +kernel
theorem rd_k11 : readF [107, 101, 121, 44, 97, 10, 120, 44, 49, 44, 50, 10] = (.nil, 2, 6) := readF_no (q := []) (by decide) (by decide +kernel) (by decide)
theorem pl_k12 : plB [107, 101, 121, 44, 97, 10, 120, 44, 49, 10, 120, 44, 50, 10] = true := by decide +kernel
theorem rd_k12 : readF [107, 101, 121, 44, 97, 10, 120, 44, 49, 10, 120, 44, 50, 10] = (.nil, 3, 7) := readF_no (q := []) (by decide) (by decide +kernel) (by decide)
theorem pl_k13 : plB [107, 101, 121, 44, 97, 10, 44, 49, 10] = true := by decide +kernel
theorem rd_k13 : readF [107, 101, 121, 44, 97, 10, 44, 49, 10] = (.nil, 2, 6) := readF_no (q := []) (by decide) (by decide +kernel) (by decide)
theorem pl_k14 : plB [107, 101, 121, 44, 97, 10, 120, 44, 34, 49, 10] = true := by decide +kernel
theorem rd_k14 : readF [107, 101, 121, 44, 97, 10, 120, 44, 34, 49, 10] = (.nil, 2, 6) := readF_no (q := []) (by decide) (by decide +kernel) (by decide)
theorem pl_k15 : plB [107, 101, 121, 44, 97, 10, 120, 44, 34, 49, 34, 50, 10] = true := by decide +kernel
theorem rd_k15 : readF [107, 101, 121, 44, 97, 10, 120, 44, 34, 49, 34, 50, 10] = (.nil, 2, 6) := readF_no (q := []) (by decide) (by decide +kernel) (by decide)
theorem pl_k16 : plB [107, 101, 121, 44, 97, 10, 120, 44, 49, 34, 10] = true := by decide +kernel
theorem rd_k16 : readF [107, 101, 121, 44, 97, 10, 120, 44, 49, 34, 10] = (.nil, 2, 6) := readF_no (q := []) (by decide) (by decide +kernel) (by decide)
theorem pl_k17 : plB [107, 101, 121, 10, 10] = true := by decide +kernel
theorem rd_k17 : readF [107, 101, 121, 10, 10] = (.nil, 2, 6) := readF_no (q := []) (by decide) (by decide +kernel) (by decide)
theorem pl_k18 : plB [107, 101, 121, 44, 97, 10, 120, 44, 49, 13, 50, 10] = true := by decide +kernel
theorem rd_k18 : readF [107, 101, 121, 44, 97, 10, 120, 44, 49, 13, 50, 10] = (.nil, 2, 6) := readF_no (q := []) (by decide) (by decide +kernel) (by decide)
theorem tx_nil : Pt.ba (Tr.text Tr.nil) = ⟨#[123, 125]⟩ := by decide +kernel
theorem tx_T1 : Pt.ba (Tr.text T1) = ⟨#[123, 34, 120, 34, 58, 32, 123, 34, 97, 34, 58, 32, 123, 34, 49, 34, 58, 32, 123, 125, 125, 125, 125]⟩ := by decide +kernel
theorem tx_T2 : Pt.ba (Tr.text T2) = ⟨#[123, 34, 120, 34, 58, 32, 123, 125, 125]⟩ := by decide +kernel
theorem tx_T3 : Pt.ba (Tr.text T3) = ⟨#[123, 34, 120, 44, 34, 58, 32, 123, 34, 97, 44, 92, 34, 98, 34, 58, 32, 123, 34, 32, 121, 32, 34, 58, 32, 123, 125, 125, 125, 125]⟩ := by decide +kernel
end Go.Proofs.YtlojjmmjmpffnaaGreatDoor.Cv

namespace Go.Proofs.YtlojjmmjmpffnaaGreatDoor.Cv
open Go.RowKit Go.Proofs.YtlojjmmjmpffnaaGreatDoor.Jd Go.Proofs.YtlojjmmjmpffnaaGreatDoor.Li Go.Proofs.YtlojjmmjmpffnaaGreatDoor.Cl
set_option maxRecDepth 100000

theorem tmod_pos7 {a n : Int} (hn : 0 < n) (h : 0 ≤ a.tmod n) : a.tmod n = a % n := by
  have h1 := Int.tmod_add_mul_tdiv a n
  have h2 := Int.tmod_lt_of_pos a hn
  conv => rhs; rw [← h1]
  rw [Int.add_mul_emod_self_left, Int.emod_eq_of_lt h h2]
theorem tmod_neg7 {a n : Int} (hn : 0 < n) (h : a.tmod n < 0) : a.tmod n + n = a % n := by
  have h1 := Int.tmod_add_mul_tdiv a n
  have h2 := Int.lt_tmod_of_pos a hn
  conv => rhs; rw [← h1]
  rw [Int.add_mul_emod_self_left, ← Int.add_emod_right, Int.emod_eq_of_lt (by omega) (by omega)]
set_option maxHeartbeats 400000 in
theorem within_any (a n : Int) (hn : 0 < n) (hn2 : n ≤ 2147483647) (ha : -9223372036854775808 ≤ a ∧ a ≤ 9223372036854775807) (w : World) : Calls Tryz.prog 8 #[.int .i64 a, .int .i64 n] w fun e w' => e = .returned (.int .i64 (a % n)) ∧ w = w' := by
  obtain ⟨hx1, hx2⟩ := ha
  have hm1 := Int.tmod_lt_of_pos a hn
  have hm2 := Int.lt_tmod_of_pos a hn
  by_cases h : a.tmod n < 0
  · have Hf := Lib.hid (tmod_neg7 hn h)
    go_enter Tryz.func8, Tryz.ntmps8
    go_wp2
    go_ret
    exact ⟨by rw [← Hf.out]; rfl, rfl⟩
  · have Hf := Lib.hid (tmod_pos7 hn (by omega : 0 ≤ a.tmod n))
    go_enter Tryz.func8, Tryz.ntmps8
    go_wp2
    go_ret
    exact ⟨by rw [← Hf.out]; rfl, rfl⟩
theorem within_nat (a : Int) (n : Nat) (hn : 0 < n) (hn2 : n ≤ 2147483647) (ha : -9223372036854775808 ≤ a ∧ a ≤ 9223372036854775807) : ∃ j : Nat, j < n ∧ ∀ w, Calls Tryz.prog 8 #[.int .i64 a, .int .i64 n] w fun e w' => e = .returned (.int .i64 j) ∧ w = w' := by
  refine ⟨(a % n).toNat, by have := Int.emod_lt_of_pos a (show (0 : Int) < n by omega); have := Int.emod_nonneg a (show (n : Int) ≠ 0 by omega); omega, fun w => ?_⟩
  rw [Int.toNat_of_nonneg (Int.emod_nonneg a (by omega))]
  exact within_any a n (by omega) (by omega) ha w

theorem text_of (T : Tr) (b : ByteArray) (hb : Pt.ba T.text = b) (hs : T.size ≤ 1000) (hl : T.text.length ≤ 1000) (W : World) (A : Option Addr) (n c : Nat) (h : Holds W W.heap.size A n T) :
    Calls Tryz.prog 13 #[.slice A n c] W fun e w' => e = .returned (.string b) ∧ Below W.heap.size W w' :=
  (Pt.rtext_any T.size T A n c W.heap.size W (Nat.le_refl _) h (Nat.le_refl _) (by omega) (by omega)).mono fun _ _ ⟨e, q, hw⟩ => ⟨by rw [e, hb], hw ▸ below_drewN (Below.refl _ _) q⟩

set_option maxHeartbeats 2000000 in
theorem known_any (w : World) (hG : Gl w) : Calls Tryz.prog 6 #[] w fun e w' => e = .returned (.bool true) ∧ Below w.heap.size w w' := by
  have hl := load_any ⟨#[107, 101, 121, 44, 97, 10, 120, 44, 49, 10]⟩ w (plB_pl pl_kn) hG
  rw [show readF (ByteArray.mk #[107, 101, 121, 44, 97, 10, 120, 44, 49, 10]).data.toList = (T1, 0, 0) from rd_kn] at hl
  have HL := Lib.hid hl
  have HT := Lib.hid (fun (W : World) (A : Option Addr) (n c : Nat) (h : Holds W W.heap.size A n T1) => text_of T1 _ tx_T1 (by decide) (by decide) W A n c h)
  clear hl
  go_enter Tryz.func6, Tryz.ntmps6
  go_wp2_with fail
  (with_reducible refine HL.out.mono ?_)
  rintro e w1 ⟨At, ct, rfl, hh, hc, hb⟩
  have hh1 := hh.to (B := w1.heap.size) (fun b hb => hb.2)
  have HH := Lib.hid (fun W (hW : Below w1.heap.size w1 W) => HT.out W At T1.len ct ((hh1.keep (w' := W) fun p hp => hW.cell hp).more hW.size))
  have HB := Lib.hid hb
  clear hh hh1 hc hb
  go_wp2_with fail
  (with_reducible refine (HH.out _ (Below.refl _ _)).mono ?_)
  rintro e v1 ⟨rfl, f1⟩
  go_wp2_with fail
  go_ret
  exact ⟨rfl, HB.out.trans (f1.mono HB.out.size)⟩
end Go.Proofs.YtlojjmmjmpffnaaGreatDoor.Cv
