/- VfsNames, walked. No conditions. -/
import Derived.Test.YtaokoejedpbejaaVfLem
namespace Go.Proofs.Ytaokoejedpbejaa.Vf
open Go.RowKit
set_option maxRecDepth 100000

structure NInv (V : Vm) (i : Nat) : Prop where
  dead : V.dead = false
  stop : V.stop = 0
  room : V.room = 10000
  all : ∀ x ∈ V.now, 1 ≤ x.1.length ∧ x.1.length ≤ 20 ∧ x.2.length = 1
  len : V.now.length ≤ i
theorem used_ones : ∀ {l : FL}, (∀ x ∈ l, x.2.length = 1) → used l = l.length
  | [], _ => rfl
  | (k, b) :: r, h => by
    have h1 := h (k, b) (by simp)
    have h2 := used_ones (l := r) fun x hx => h x (by simp [hx])
    simp only [used, List.length_cons]
    simp only at h1
    omega
theorem NInv.ones {V : Vm} {i : Nat} (h : NInv V i) : used V.now = V.now.length := used_ones fun x hx => (h.all x hx).2.2
theorem NInv.write {V : Vm} {i N : Nat} (h : NInv V i) (hl : Lim V N) (hi : i ≤ 20) (k : BS) : (V.write k [1]).1 = (if k.length < 1 ∨ 20 < k.length then 12 else 0) ∧ NInv (V.write k [1]).2 (i + 1) := by
  unfold Vm.write
  rw [if_neg (by rw [h.dead]; simp)]
  by_cases hk : k.length < 1 ∨ 20 < k.length
  · rw [if_pos hk, if_pos hk]
    exact ⟨rfl, h.dead, h.stop, h.room, h.all, Nat.le_succ_of_le h.len⟩
  · rw [if_neg hk, if_neg hk]
    have ha := hl.ascNow
    have hall : ∀ x ∈ wth k (some [1]) V.now, 1 ≤ x.1.length ∧ x.1.length ≤ 20 ∧ x.2.length = 1 := by
      intro x hx
      rcases mem_wth hx with e | e
      · have h1 := fnd_of_mem (k := x.1) (b := x.2) (asc_wth k (some [1]) ha) hx
        rw [e, fnd_wth_same k _ ha] at h1
        injection h1 with h1
        rw [e, ← h1]
        exact ⟨by omega, by omega, rfl⟩
      · exact h.all x e
    have hlen := wth_length k (some [1]) V.now
    have hu := used_ones fun x hx => (hall x hx).2.2
    have hil := h.len
    rw [if_neg (by rw [h.room, hu]; omega)]
    obtain ⟨h1, h2, h3, h4⟩ := does_dead h.dead h.stop k (some [1])
    exact ⟨h3, h1, h2, h4.trans h.room, by rw [does_now]; exact hall, by rw [does_now]; omega⟩
theorem NInv.last {V : Vm} {i N : Nat} (h : NInv V i) (hl : Lim V N) (hi : i ≤ 20) {k : BS} (hk : 1 ≤ k.length) : (V.write k []).1 = (if 20 < k.length then 12 else 0) := by
  unfold Vm.write
  rw [if_neg (by rw [h.dead]; simp)]
  by_cases hk2 : 20 < k.length
  · rw [if_pos (.inr hk2), if_pos hk2]
  · rw [if_neg (by omega), if_neg hk2]
    have hu := used_wth k (some []) hl.ascNow
    have h1 := h.ones
    have hil := h.len
    rw [if_neg (by rw [h.room]; simp only [olen, List.length_nil] at hu; omega)]
    exact (does_dead h.dead h.stop k (some [])).2.2.1
theorem less_iff (x y : ByteArray) : Op.bytesLess x.toList y.toList = true ↔ x.data.toList < y.data.toList := by
  rw [Go.Proofs.bytesLess_eq, ByteArray.toList_eq, ByteArray.toList_eq, decide_eq_true_iff]
def nm (L : List BS) (j : Nat) : ByteArray := ⟨(L.getD j []).toArray⟩
theorem nm_eq {L : List BS} {j : Nat} (hj : j < L.length) : nm L j = ⟨L[j].toArray⟩ := by simp [nm, List.getD, List.getElem?_eq_getElem hj]
theorem row_str {w W : World} {base c : Nat} {A : Option Addr} {L : List BS} (h : w.ownsRow base 9 1 (.slice A L.length c) L.length (strL L)) (hb : Below w.heap.size w W) {j : Nat} (hj : j < L.length) : ∃ g, A = some ⟨g, 0, none⟩ ∧ ∀ (i : Nat), i < L.length → W.cell? ⟨g, i, none⟩ = some (.string (nm L i)) := by
  rcases h.2 with ⟨e, e2⟩ | ⟨g, cap, cur, e, hgb, hh, _⟩
  · omega
  · injection e with e1
    subst e1
    refine ⟨g, rfl, fun i hi => ?_⟩
    rw [nm_eq hi]
    have hc := rowCells h i (encStr L[i]) (by simp [strL, List.getElem?_eq_getElem hi])
    rw [Addr.add_lit, Nat.zero_add] at hc
    exact (hb.cell (p := ⟨g, i, none⟩) (Array.getElem?_eq_some_iff.1 hh).1).trans hc
theorem wr_succ {j : Nat} (h : j ≤ 1000) : wrap64 ((j : Int) + 1) = (j : Int) + 1 := by unfold wrap64; omega
theorem wr_pred {i : Nat} (h : i ≤ 1000) : wrap64 (((i + 1 : Nat) : Int) - 1) = (i : Int) := by unfold wrap64; omega
theorem nRem : (Vm.new 9).remove (⟨#[110, 111, 110, 101]⟩ : ByteArray).data.toList = (2, Vm.new 9) := by rfl

set_option maxHeartbeats 4000000 in
theorem vfsNames_walk (A : Option Addr) (n c : Nat) (l : List ByteArray) (a : Int) (w : World) (hS : SeesV w w.heap.size A n (l.map Value.string)) (hsz : ∀ x ∈ l, x.size ≤ maxLen) (ha : -9223372036854775808 ≤ a ∧ a ≤ 9223372036854775807) :
    Calls Try.prog 9 #[.slice A n c, .int .i64 a] w fun e w' => e = .returned (.bool true) ∧ Below w.heap.size w w' := by
  obtain ⟨z, hz, hwz⟩ : ∃ z : Nat, z < 3 ∧ ∀ w : World, Calls Try.prog 12 #[.int .i64 a, .int .i64 3] w fun e w' => e = .returned (.int .i64 (z : Int)) ∧ w = w' := by
    obtain ⟨k, h1, _, h2⟩ := within_nat a 3 (by decide) (by decide) ha.1 ha.2
    exact ⟨k, h1, h2⟩
  have HS := Lib.hid hS
  have HSZ := Lib.hid hsz
  have HZ := Lib.hid hz
  have HWZ := Lib.hid hwz
  clear hS hsz ha hz hwz
  go_enter Try.func9, Try.ntmps9
  go_wp2_with (first
    | (go_at_call 10; (with_reducible refine (known_any _).mono ?_); rintro e W1 ⟨rfl, hb1⟩; have HB1 := Lib.hid hb1; clear hb1)
    | (go_at_call 13; (with_reducible refine (new_any _ W1).mono ?_); rintro e W2 ⟨rfl, hbx2, hb2, hz2⟩; have HBX2 := Lib.hid hbx2; have HB2 := Lib.hid hb2; clear hbx2 hb2 hz2))
  have hv2 := Vp.fresh (B := W2.heap.size) HBX2.out HBX2.out.lt (Nat.le_refl _)
  have hbw2 : Below w.heap.size w W2 := HB1.out.trans (HB2.out.mono HB1.out.size)
  have c2w : ∀ W, Mo W2.heap.size W1.heap.size W2 W → Below w.heap.size w W := fun W h => hbw2.trans (h.below hbw2.size HB1.out.size hbw2.size)
  have HV2 := Lib.hid hv2
  have HC := Lib.hid c2w
  clear hv2 hbw2 c2w
  go_loopw [6] (fun i wr => ∃ (k : Nat) (V : Vm), k ≤ 15 ∧ k ≤ n ∧ i = .int .i64 (k : Int) ∧ Vp wr W2.heap.size W1.heap.size V ∧ Lim V (k * 100) ∧ NInv V k ∧ Mo W2.heap.size W1.heap.size W2 wr) (fun i _ => 15 - (intOf i).toNat)
  case atStart => exact ⟨0, Vm.new 10000, by omega, Nat.zero_le _, rfl, HV2.out, Lim.new 10000, ⟨rfl, rfl, rfl, (fun x hx => by cases hx), Nat.le_refl _⟩, Mo.refl _ _ _⟩
  case round =>
    obtain ⟨k, V, hk, hkn, rfl, hv, hl, hi, hmo⟩ := hrel
    have HV := Lib.hid hv
    have HL := Lib.hid hl
    have HI := Lib.hid hi
    have HMO := Lib.hid hmo
    have HK := Lib.hid hk
    clear hv hl hi hmo hk
    by_cases hlt : k < n ∧ k < 15
    · obtain ⟨h1, h2⟩ := hlt
      have q1 : (k : Int) < (n : Int) := by omega
      have q2 : (k : Int) < 15 := by omega
      have k0 : (0 : Int) ≤ (k : Int) := by omega
      obtain ⟨b, o, rfl, hb, hcell⟩ := (HS.out.below (HC.out _ HMO.out)).str h1
      have hkl : k < l.length := by have := HS.out.len; rw [List.length_map] at this; omega
      have hget : l.getD k ⟨#[]⟩ = l[k] := by simp [List.getD, List.getElem?_eq_getElem hkl]
      have hss := HSZ.out l[k] (List.getElem_mem hkl)
      rw [hget] at hcell
      obtain ⟨s, hs⟩ : ∃ s, s = l[k] := ⟨_, rfl⟩
      rw [← hs] at hcell hss
      have HSS := Lib.hid hss
      have H1 := Lib.hid h1
      have H2 := Lib.hid h2
      clear hss hget hs hkl hb h1 h2 hkn
      have hsl : s.data.toList.length = s.size := Array.length_toList
      have hwr := write_any (s := s) (n := 1) (c := 1) (HV.out.below ((Below.refl _ _).alloc (Nat.le_refl _) (Obj.cells #[.int .u8 1] 5))) HL.out (sees_new wr [1] rfl) HSS.out (by have := HK.out; show k * 100 + 21 + 1 ≤ 1099511627776; omega)
      obtain ⟨hans, hnext⟩ := HI.out.write HL.out (by have := HK.out; omega) s.data.toList
      rw [hans, hsl] at hwr
      have hlim := (HL.out.write s.data.toList [1])
      have HWR := Lib.hid hwr
      have HNX := Lib.hid hnext
      have HLIM := Lib.hid hlim
      have HSL := Lib.hid hsl
      clear hwr hans hnext hlim hsl
      by_cases h60 : 60 < s.size
      · have r1 : (60 : Int) < (s.size : Int) := by omega
        clear h60
        go_wp2_with fail
        go_ret
        exact ⟨rfl, HC.out _ HMO.out⟩
      · have r1 : ¬ (60 : Int) < (s.size : Int) := by omega
        have H60 := Lib.hid h60
        by_cases h0 : s.size = 0
        · have r2 : ((s.size : Int) == 0) = true := by simp [h0]
          have hwr := HWR.out
          rw [if_pos (by omega)] at hwr
          have HWR2 := Lib.hid hwr
          clear hwr h0 h60 HWR
          go_wp2_with (go_at_call 18; (with_reducible refine HWR2.out.mono ?_); rintro e W4 ⟨rfl, hv4, hm4⟩)
          go_roundw
          case rel => exact ⟨k + 1, _, by have := H2.out; omega, by have := H1.out; omega, by go_num, hv4, HLIM.out.more (by have := HSL.out; have := H60.out; show k * 100 + (s.data.toList.length + 1 + 1) ≤ _; omega), HNX.out, HMO.out.trans ((Mo.of ((Below.refl _ _).alloc (Nat.le_refl _) _)).trans hm4)⟩
          case measure => have := H2.out; simp [intOf]; omega
        · have r2 : ((s.size : Int) == 0) = false := by simp [h0]
          by_cases h20 : 20 < s.size
          · have r3 : (20 : Int) < (s.size : Int) := by omega
            have hwr := HWR.out
            rw [if_pos (by omega)] at hwr
            have HWR2 := Lib.hid hwr
            clear hwr h0 h60 h20 HWR
            go_wp2_with (go_at_call 18; (with_reducible refine HWR2.out.mono ?_); rintro e W4 ⟨rfl, hv4, hm4⟩)
            go_roundw
            case rel => exact ⟨k + 1, _, by have := H2.out; omega, by have := H1.out; omega, by go_num, hv4, HLIM.out.more (by have := HSL.out; have := H60.out; show k * 100 + (s.data.toList.length + 1 + 1) ≤ _; omega), HNX.out, HMO.out.trans ((Mo.of ((Below.refl _ _).alloc (Nat.le_refl _) _)).trans hm4)⟩
            case measure => have := H2.out; simp [intOf]; omega
          · have r3 : ¬ (20 : Int) < (s.size : Int) := by omega
            have hwr := HWR.out
            rw [if_neg (by omega)] at hwr
            have HWR2 := Lib.hid hwr
            clear hwr h0 h60 h20 HWR
            go_wp2_with (go_at_call 18; (with_reducible refine HWR2.out.mono ?_); rintro e W4 ⟨rfl, hv4, hm4⟩)
            go_roundw
            case rel => exact ⟨k + 1, _, by have := H2.out; omega, by have := H1.out; omega, by go_num, hv4, HLIM.out.more (by have := HSL.out; have := H60.out; show k * 100 + (s.data.toList.length + 1 + 1) ≤ _; omega), HNX.out, HMO.out.trans ((Mo.of ((Below.refl _ _).alloc (Nat.le_refl _) _)).trans hm4)⟩
            case measure => have := H2.out; simp [intOf]; omega
    · have hna := names_any HV.out HL.out (by have := HK.out; omega)
      have HNA := Lib.hid hna
      obtain ⟨L, hL⟩ : ∃ L, L = V.now.map (·.1) := ⟨_, rfl⟩
      rw [← hL] at HNA
      have hall : ∀ (j : Nat), j < L.length → 1 ≤ (nm L j).size ∧ (nm L j).size ≤ 20 := by
        intro j hj
        rw [nm_eq hj]
        subst hL
        rw [List.getElem_map]
        have h := HI.out.all (V.now[j]'(by simpa using hj)) (List.getElem_mem _)
        exact ⟨by simpa [ByteArray.size] using h.1, by simpa [ByteArray.size] using h.2.1⟩
      have hasc : ∀ (j : Nat), j + 1 < L.length → Op.bytesLess (nm L j).toList (nm L (j + 1)).toList = true := by
        intro j hj
        rw [nm_eq (show j < L.length by omega), nm_eq hj]
        subst hL
        rw [less_iff]
        have h := List.pairwise_iff_getElem.1 HL.out.ascNow j (j + 1) (by simp at hj; omega) (by simpa using hj) (by omega)
        simpa using h
      have hus : used V.now = L.length := by rw [hL, List.length_map]; exact HI.out.ones
      have HALL := Lib.hid hall
      have HASC := Lib.hid hasc
      have HUS := Lib.hid hus
      have hL20 : L.length ≤ 20 := by rw [hL, List.length_map]; have := HI.out.len; have := HK.out; omega
      have HL20 := Lib.hid hL20
      clear hL20
      have hkn2 := hkn
      clear hall hasc hus hL hna
      have hdis : (n : Int) ≤ (k : Int) ∨ ((k : Int) < (n : Int) ∧ (15 : Int) ≤ (k : Int)) := by omega
      clear hlt
      rcases hdis with q1 | ⟨q1, q2⟩
      all_goals
        go_wp2_with (go_at_call 27; (with_reducible refine HNA.out.mono ?_); rintro e W5 ⟨A5, c5, rfl, ho5, hb5⟩; have HO5 := Lib.hid ho5; have HB5 := Lib.hid hb5; clear ho5 hb5)
        go_loopw [9] (fun i wr2 => ∃ j : Nat, j ≤ L.length ∧ i = .int .i64 (j : Int) ∧ Below W5.heap.size W5 wr2) (fun i _ => L.length - (intOf i).toNat)
        case atStart => exact ⟨0, Nat.zero_le _, rfl, Below.refl _ _⟩
        case round =>
          obtain ⟨j, hj, rfl, hbw⟩ := hrel
          have HBW := Lib.hid hbw
          by_cases hlt : j < L.length
          · obtain ⟨g, rfl, hcells⟩ := row_str HO5.out hbw hlt
            have p1 : (j : Int) < (L.length : Int) := by omega
            have p0 : (0 : Int) ≤ (j : Int) := by omega
            have hs1 := HALL.out j hlt
            have hcj := hcells j hlt
            have HJ := Lib.hid hlt
            by_cases hj0 : j = 0
            · subst hj0
              have p9 : (0 : Int) < (L.length : Int) := by omega
              have p10 : 0 < L.length := hlt
              have p11 : ¬ L.length = 0 := by omega
              obtain ⟨t, ht⟩ : ∃ t : ByteArray, t = nm L 0 := ⟨_, rfl⟩
              rw [← ht] at hs1 hcj
              have p3 : ((t.size : Int) == 0) = false := by have h := hs1.1; rw [beq_eq_false_iff_ne]; omega
              have p4 : ¬ (20 : Int) < (t.size : Int) := by omega
              clear ht hs1 hcells hj hlt hbw p0 p1
              go_wp2_with fail
              go_quiet (fail)
              go_wp2_with fail
              go_roundw
              case rel => exact ⟨1, by have := HJ.out; omega, by go_num, HBW.out.os, HBW.out.tape, HBW.out.output, HBW.out.size, HBW.out.block⟩
              case measure => have := HJ.out; simp [intOf]; omega
            · obtain ⟨i, hi⟩ : ∃ i : Nat, j = i + 1 := ⟨j - 1, by omega⟩
              subst hi
              have hci := hcells i (by omega)
              have hlss := HASC.out i hlt
              obtain ⟨t, ht⟩ : ∃ t : ByteArray, t = nm L (i + 1) := ⟨_, rfl⟩
              obtain ⟨t0, ht0⟩ : ∃ t : ByteArray, t = nm L i := ⟨_, rfl⟩
              rw [← ht] at hs1 hcj hlss
              rw [← ht0] at hci hlss
              have p2 : (0 : Int) < ((i + 1 : Nat) : Int) := by omega
              have p3 : ((t.size : Int) == 0) = false := by have h := hs1.1; rw [beq_eq_false_iff_ne]; omega
              have p4 : ¬ (20 : Int) < (t.size : Int) := by omega
              obtain ⟨j, hji⟩ : ∃ j : Nat, j = i + 1 := ⟨_, rfl⟩
              have p5 : wrap64 ((j : Int) - 1) = (i : Int) := by rw [hji]; exact wr_pred (by have := HL20.out; omega)
              have p6 : (i : Int) < (L.length : Int) := by omega
              have HP8 := Lib.hid (wr_succ (j := j) (by have := HL20.out; omega))
              have p2n : 0 < j := by omega
              have p7 : (0 : Int) ≤ (i : Int) := by omega
              have HI1 := Lib.hid hji
              have hjl : j < L.length := by omega
              have HJ2 := Lib.hid hjl
              rw [← hji] at p0 p1 p2 hcj ⊢
              clear ht ht0 hs1 hcells hj hj0 hlt hbw hji hjl
              go_wp2_with fail
              go_quiet (fail)
              go_wp2_with fail
              go_roundw
              case rel => exact ⟨j + 1, by have := HJ2.out; omega, by rw [HP8.out]; rfl, HBW.out.os, HBW.out.tape, HBW.out.output, HBW.out.size, HBW.out.block⟩
              case measure => have := HJ2.out; rw [HP8.out]; simp only [intOf]; omega
          · have hjl : (L.length : Int) ≤ (j : Int) := by omega
            have hv5 := (HV.out.below HB5.out).below hbw
            have hu5 := used_any hv5
            rw [HUS.out] at hu5
            obtain ⟨m, hm⟩ : ∃ m, m = 20 + z := ⟨_, rfl⟩
            have hm2 : m ≤ 22 := by have := HZ.out; omega
            have w3 : wrap64 (20 + (z : Int)) = (m : Int) := by unfold wrap64; omega
            have hzr := fun W => zeros_run m (by omega) W
            obtain ⟨S, hS⟩ : ∃ S : ByteArray, S = ⟨(List.replicate m 0).toArray⟩ := ⟨_, rfl⟩
            have hcv := fun W => text_run (c := m) (sees_new W (List.replicate m 0) (n := m) (by simp))
            rw [← hS] at hcv
            have hSz : S.size = m := by rw [hS]; simp [ByteArray.size]
            have hSl : S.data.toList.length = m := by rw [hS]; simp
            obtain ⟨Z, hZ⟩ : ∃ Z, Z = Obj.cells (byts (List.replicate m 0)).toArray 5 := ⟨_, rfl⟩
            rw [← hZ] at hzr hcv
            have hvZ := hv5.below ((Below.refl _ _).alloc (Nat.le_refl _) Z)
            have hwr := write_any (s := S) (n := 0) (c := 0) (A := none) (b := []) hvZ HL.out (Sees.none_ _ _ _) (by rw [hSz]; unfold maxLen; omega) (by have := HK.out; show k * 100 + 21 + 0 ≤ 1099511627776; omega)
            rw [HI.out.last HL.out (by have := HK.out; omega) (by omega), hSl] at hwr
            have HWR := Lib.hid hwr
            have HU5 := Lib.hid hu5
            have HM := Lib.hid hm
            have HBW5 := Lib.hid ((HC.out _ HMO.out).trans (HB5.out.mono (HC.out _ HMO.out).size))
            have HM2 := Lib.hid hm2
            have rem9 : ∀ (W : World) (q : Nat) (W' : World), Bx W' q (bx0 (Vm.new 9)) 61 → Calls Try.prog 23 #[.pointer (some ⟨q, 0, none⟩), .string ⟨#[110, 111, 110, 101]⟩] W' (Did (.int .i64 2) (Vm.new 9) W'.heap.size q W') := fun W q W' h => by
              have := remove_any (s := ⟨#[110, 111, 110, 101]⟩) (Vp.fresh (B := W'.heap.size) h h.lt (Nat.le_refl _)) (Lim.new 9) (by decide) (by decide)
              rw [nRem] at this
              exact this
            have HREM := Lib.hid rem9
            clear hv5 hu5 hj hlt hbw hm2 hS hZ hvZ hwr rem9 hSl
            have hmm : m = 20 ∨ 20 < m := by omega
            clear hm
            rcases hmm with h20 | h20
            · have hwr := HWR.out
              rw [if_neg (by omega)] at hwr
              have HWR2 := Lib.hid hwr
              have s1 : ((S.size : Int) == 20) = true := by rw [hSz, h20]; rfl
              clear hwr HWR hSz h20
              go_wp2_with (first
                | (go_at_call 25; (with_reducible refine HU5.out.mono ?_); rintro e W6 ⟨rfl, rfl⟩)
                | (go_at_call 12; (with_reducible refine (HWZ.out _).mono ?_); rintro e W6 ⟨rfl, rfl⟩)
                | (go_at_call 18; (with_reducible refine HWR2.out.mono ?_); rintro e W7 ⟨rfl, hv7, hm7⟩; have HM7 := Lib.hid hm7; clear hv7 hm7)
                | (go_at_call 13; (with_reducible refine (new_any _ W7).mono ?_); rintro e W8 ⟨rfl, hbx8, hb8, hz8⟩; have HBX8 := Lib.hid hbx8; have HB8 := Lib.hid hb8; clear hbx8 hb8 hz8)
                | (go_at_call 23; (with_reducible refine (HREM.out W7 _ _ HBX8.out).mono ?_); rintro e W9 ⟨rfl, hv9, hm9⟩; have HM9 := Lib.hid hm9; clear hv9 hm9))
              go_ret
              have hX : Below w.heap.size w (wr.alloc Z) := (HBW5.out.trans (HBW.out.mono HBW5.out.size)).trans ((Below.refl _ _).alloc (by have h1 := HBW5.out.size; have h2 := HBW.out.size; omega) Z)
              have h1 : w.heap.size ≤ W1.heap.size := HB1.out.size
              have h2 : w.heap.size ≤ W2.heap.size := Nat.le_trans h1 (Nat.le_of_lt HBX2.out.lt)
              have hY : Below w.heap.size w W7 := hX.trans (HM7.out.below h2 h1 hX.size)
              have hV : Below w.heap.size w W8 := hY.trans (HB8.out.mono hY.size)
              exact ⟨rfl, hV.trans (HM9.out.below hV.size hY.size hV.size)⟩
            · have hwr := HWR.out
              rw [if_pos h20] at hwr
              have HWR2 := Lib.hid hwr
              have s1 : ((S.size : Int) == 20) = false := by rw [beq_eq_false_iff_ne]; omega
              clear hwr HWR hSz h20
              go_wp2_with (first
                | (go_at_call 25; (with_reducible refine HU5.out.mono ?_); rintro e W6 ⟨rfl, rfl⟩)
                | (go_at_call 12; (with_reducible refine (HWZ.out _).mono ?_); rintro e W6 ⟨rfl, rfl⟩)
                | (go_at_call 18; (with_reducible refine HWR2.out.mono ?_); rintro e W7 ⟨rfl, hv7, hm7⟩; have HM7 := Lib.hid hm7; clear hv7 hm7)
                | (go_at_call 13; (with_reducible refine (new_any _ W7).mono ?_); rintro e W8 ⟨rfl, hbx8, hb8, hz8⟩; have HBX8 := Lib.hid hbx8; have HB8 := Lib.hid hb8; clear hbx8 hb8 hz8)
                | (go_at_call 23; (with_reducible refine (HREM.out W7 _ _ HBX8.out).mono ?_); rintro e W9 ⟨rfl, hv9, hm9⟩; have HM9 := Lib.hid hm9; clear hv9 hm9))
              go_ret
              have hX : Below w.heap.size w (wr.alloc Z) := (HBW5.out.trans (HBW.out.mono HBW5.out.size)).trans ((Below.refl _ _).alloc (by have h1 := HBW5.out.size; have h2 := HBW.out.size; omega) Z)
              have h1 : w.heap.size ≤ W1.heap.size := HB1.out.size
              have h2 : w.heap.size ≤ W2.heap.size := Nat.le_trans h1 (Nat.le_of_lt HBX2.out.lt)
              have hY : Below w.heap.size w W7 := hX.trans (HM7.out.below h2 h1 hX.size)
              have hV : Below w.heap.size w W8 := hY.trans (HB8.out.mono hY.size)
              exact ⟨rfl, hV.trans (HM9.out.below hV.size hY.size hV.size)⟩
end Go.Proofs.Ytaokoejedpbejaa.Vf
