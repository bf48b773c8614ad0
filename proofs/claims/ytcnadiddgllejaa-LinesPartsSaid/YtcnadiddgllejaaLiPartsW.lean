/- LinesParts' walk. Condition: the text has fewer than 2^47 - 4096 bytes. -/
import Derived.Test.YtcnadiddgllejaaLiNoneW
import Derived.BigQuiet
import Derived.Deep.QuietTactic
import Derived.IntWalk
namespace Go.Proofs.Ytcnadiddgllejaa.Li
open Go.RowKit
set_option maxRecDepth 100000

/-- No end of a line among the first k bytes. -/
def Bare (s : ByteArray) (k : Nat) : Prop := ∀ i (h : i < s.size), i < k → s[i] ≠ 10
theorem Bare.all {s : ByteArray} (h : Bare s s.size) : (10 : UInt8) ∉ s.data.toList := by
  intro hm
  obtain ⟨i, hi, e⟩ := List.getElem_of_mem hm
  have hi2 : i < s.size := by rw [← show s.data.toList.length = s.size from Array.length_toList]; exact hi
  exact h i hi2 hi2 (by rw [← e]; rfl)

theorem neq_self (s : ByteArray) (W : World) : (binOp .neq 9 (.string s) (.string s)).run Try.prog W = .ok (.bool false) W := by
  have h1 := Try.underlying9
  simp [go_sem]

set_option maxHeartbeats 4000000 in
theorem parts_walk (A : Option Addr) (n c : Nat) (l : List Int) (a : Int) (s : ByteArray) (w : World) (h : SeesV w w.heap.size A n (l.map (Value.int .i64))) (hr : ∀ x ∈ l, -9223372036854775808 ≤ x ∧ x ≤ 9223372036854775807) (hc : n ≤ c) (hm : c ≤ maxLen) (ha : -9223372036854775808 ≤ a ∧ a ≤ 9223372036854775807) (hs : s.size ≤ 140737488351232) :
    Calls Try.prog 4 #[.slice A n c, .int .i64 a, .string s] w fun e w' => e = .returned (.bool true) ∧ Below w.heap.size w w' := by
  have HT := Lib.hid (fun W (hb : Below w.heap.size w W) => text_any A n c l W (SeesV.more hb.size (h.below hb)) hr hc hm)
  have HK := Lib.hid (fun W => known_any W)
  clear h hr hc hm
  go_enter Try.func4, Try.ntmps4
  go_wp2_with fail
  (with_reducible refine (HK.out _).mono ?_)
  rintro e w1 ⟨rfl, hb1⟩
  go_wp2_with fail
  go_loop [7] (fun i => ∃ k : Nat, k ≤ s.size ∧ i = .int .i64 k ∧ Hid (Bare s k)) (fun i => s.size - (intOf i).toNat)
  case atStart => exact ⟨0, by omega, rfl, Lib.hid (fun i _ h => by omega)⟩
  case round =>
    obtain ⟨k, hk, rfl, HB⟩ := hrel
    by_cases hlt : k < s.size
    · have q0 : (k : Int) < (s.size : Int) := by omega
      have q00 : (0 : Int) ≤ (k : Int) := by omega
      by_cases h10 : s[k] = 10
      · have q1 : ((s[k].toNat : Int) == 10) = true := by rw [h10]; rfl
        clear h10
        go_wp2_with fail
        go_ret
        exact ⟨rfl, hb1⟩
      · have n10 : s[k].toNat ≠ 10 := fun e => h10 (UInt8.toNat_inj.1 e)
        have q1 : ((s[k].toNat : Int) == 10) = false := by simp; omega
        have HB2 : Hid (Bare s (k + 1)) := Lib.hid (fun i hi hik => by
          by_cases e : i = k
          · subst e; exact h10
          · exact HB.out i hi (by omega))
        by_cases h13 : s[k] = 13
        · have q2 : ((s[k].toNat : Int) == 13) = true := by rw [h13]; rfl
          clear h13 h10 n10
          go_wp2_with fail
          go_ret
          exact ⟨rfl, hb1⟩
        · have n13 : s[k].toNat ≠ 13 := fun e => h13 (UInt8.toNat_inj.1 e)
          have q2 : ((s[k].toNat : Int) == 13) = false := by simp; omega
          clear h13 h10 n10 n13
          go_wp2_with fail
          go_round
          case rel => exact ⟨k + 1, by omega, by go_num, HB2⟩
          case measure => simp [intOf]; omega
    · have q0 : (s.size : Int) ≤ (k : Int) := by omega
      obtain rfl : k = s.size := by omega
      have HN := Lib.hid HB.out.all
      clear HB
      go_wp2_with fail
      (with_reducible refine (HT.out _ hb1).mono ?_)
      rintro e w2 ⟨t, ht, rfl, hb2⟩
      have hb12 := hb1.trans (hb2.mono hb1.size)
      clear hb1 hb2
      obtain ⟨ls, hls⟩ : ∃ ls, ls = split t.data.toList := ⟨_, rfl⟩
      have hll := split_len t
      have hgood := split_good t.data.toList
      have hjl := join_len t
      have HR := Lib.hid (fun W => rsplit_any t W (by omega))
      rw [← hls] at hll hgood HR hjl
      have Hg := Lib.hid hgood
      clear hls hgood
      go_wp2_with fail
      (with_reducible refine (HR.out _).mono ?_)
      rintro e w3 ⟨A1, c1, rfl, ho3, hb3⟩
      have hin3 := ho3.sees
      have hcap := ho3.cap
      have hb13 := hb12.trans (hb3.mono hb12.size)
      obtain ⟨N, hN⟩ : ∃ N, N = ls.length := ⟨_, rfl⟩
      rw [← hN] at hin3 hcap hll
      have Hn := Lib.hid hN
      obtain ⟨j, hj, HJ'⟩ := within_nat a (N + 1) (by omega) (by omega) ha
      rw [show ((N + 1 : Nat) : Int) = (N : Int) + 1 by omega] at HJ'
      have HJ : Hid (∀ w, Calls Try.prog 16 #[.int .i64 a, .int .i64 ((N : Int) + 1)] w fun e w' => e = .returned (.int .i64 j) ∧ w = w') := Lib.hid HJ'
      obtain ⟨W0, hW0⟩ : ∃ W, W = w3.alloc (Obj.cells #[.string s] 9) := ⟨_, rfl⟩
      have hg0 : W0.heap[w3.heap.size]? = some (.cells #[.string s] 9 (0, 0)) := by rw [hW0]; exact heap_alloc_new _ _
      have hbW : Below w3.heap.size w3 W0 := by rw [hW0]; exact (Below.refl _ _).alloc (Nat.le_refl _) _
      have hst := sees_strs (ts := [s.data.toList]) (n := 1) hg0 rfl rfl
      have hX : Calls Try.prog 17 #[.slice A1 N c1, .int .i64 j, .slice (some ⟨w3.heap.size, 0, none⟩) 1 1] W0 (RowN W0.heap.size W0 (N + 1) (insert ls j [s.data.toList])) :=
        (insert_any ls A1 N c1 [s.data.toList] (some ⟨w3.heap.size, 0, none⟩) 1 1 j j W0 ((hin3.below hbW).more hbW.size) hcap.1 (by omega) hst (by omega) (.inr (.inl ⟨by omega, by omega, rfl⟩)) (by omega)).mono fun e w' h => h.n (by rw [insert_length, Hn.out])
      obtain ⟨lx, hlx⟩ : ∃ lx, lx = insert ls j [s.data.toList] := ⟨_, rfl⟩
      rw [← hlx] at hX
      have HX := Lib.hid hX
      have Hlx := Lib.hid hlx
      have HW := Lib.hid hW0
      have HbW := Lib.hid hbW
      have HB13 := Lib.hid hb13
      have Hj := Lib.hid hjl
      have Hin3 := Lib.hid hin3
      have hN5 : (N : Int) + 1 ≤ 200 := by omega
      have hN0 : (0 : Int) ≤ (N : Int) := by omega
      have hj2 : (j : Int) ≤ (N : Int) := by omega
      have hj0 : (0 : Int) ≤ (j : Int) := by omega
      have hjN : j ≤ N := by omega
      simp only [← hN]
      clear hN hW0 hg0 hbW hst HJ' ho3 hb3 hb12 hb13 ha hin3 hX hlx hjl
      go_wp2_with fail
      (with_reducible refine (HJ.out _).mono ?_)
      rintro e w5 ⟨rfl, rfl⟩
      go_wp2_with fail
      rw [← HW.out]
      (with_reducible refine HX.out.mono ?_)
      rintro e w4 ⟨A4, c4, rfl, ho4, hb4⟩
      have hin4 := ho4.sees
      have hb34 := HbW.out.trans (hb4.mono HbW.out.size)
      have hgx : Good lx := by rw [Hlx.out]; exact insert_good Hg.out j (fun t ht => by rw [List.mem_singleton] at ht; subst ht; exact HN.out)
      have hxl : lx.length = N + 1 := by rw [Hlx.out, insert_length, Hn.out]
      have hjx : (join lx).length ≤ 140737488355328 := by
        have h1 := join_insert_le Hg.out j s.data.toList
        rw [← Hlx.out, Hj.out, ← Hn.out, show s.data.toList.length = s.size from Array.length_toList] at h1
        omega
      obtain ⟨q, hq⟩ : ∃ q : ByteArray, encs (endOf ls) = .string q := ⟨_, rfl⟩
      have hat : lx[j]? = some (s.data.toList, endOf ls) := by rw [Hlx.out]; exact insert_at Hg.out (by rw [← Hn.out]; exact hjN) _
      obtain ⟨b4, o4, hA4, hbl4, d1, d2⟩ := hin4.at_ hat
      subst hA4
      rw [hq] at d2
      replace d1 : w4.cell? ⟨b4, o4 + j * 2, none⟩ = some (.string s) := d1
      have HF : Hid (∀ W, Below w4.heap.size w4 W → Calls Try.prog 15 #[.slice A1 N c1] W fun e w' => e = .returned (.string q) ∧ w' = W) := Lib.hid (fun W hb => by
        have hbb := hb34.trans (hb.mono hb34.size)
        have := rend_any ls A1 N c1 W.heap.size W (Nat.le_refl _) ((Hin3.out.below hbb).more hbb.size) hcap.1 (by omega)
        rw [hq] at this
        exact this.mono fun e w' h => ⟨h.1, h.2.symm⟩)
      have Hq := Lib.hid hq
      have Hgx := Lib.hid hgx
      have Hxl := Lib.hid hxl
      have Hjx := Lib.hid hjx
      have Hin4 := Lib.hid hin4
      have hjN1 : (j : Int) < (N : Int) + 1 := by omega
      clear hq hgx hxl hjx hat hin4 ho4 hb4
      have hw1 : IntKind.i64.wrap ((N : Int) + 1) = (N : Int) + 1 := IntWalk.i64_in _ (by omega)
      have hs1 := fun W => neq_self s W
      have hs2 := fun W => neq_self q W
      have hw2 : (((N : Int) + 1) != ((N : Int) + 1)) = false := by simp
      go_wp2_with fail
      go_quiet ((go_at_call 15; exact Calls.quiet_of_same (HF.out _ (below_drewN (Below.refl _ _) _))))
      go_wp2_with fail
      clear hw1 hw2 hs1 hs2 d1 d2
      go_loopw [11] (fun i wr => ∃ k : Nat, k ≤ N ∧ i = .int .i64 k ∧ Below w4.heap.size w4 wr) (fun i _ => N - (intOf i).toNat)
      case atStart => exact ⟨0, Nat.zero_le _, rfl, below_drewN (Below.refl _ _) _⟩
      case round =>
        obtain ⟨k, hk, rfl, hw⟩ := hrel
        have hww := hb34.trans (hw.mono hb34.size)
        by_cases hlt : k < N
        · have q0 : (k : Int) < (N : Int) := by omega
          have q1 : (0 : Int) ≤ (k : Int) := by omega
          have q2 : (k : Int) < (N : Int) + 1 := by omega
          have q3 : (k : Int) + 1 < (N : Int) + 1 := by omega
          have q4 : (0 : Int) ≤ (k : Int) + 1 := by omega
          have q5 : ((k : Int) + 1).toNat = k + 1 := by omega
          obtain ⟨x, hx⟩ : ∃ x, ls[k]? = some x := ⟨_, List.getElem?_eq_getElem (by rw [← Hn.out]; exact hlt)⟩
          obtain ⟨b1, o1, rfl, hbl1, v1, v2⟩ := (Hin3.out.below hww).at_ hx
          obtain ⟨u1, hu1⟩ : ∃ u : ByteArray, encs x.1 = .string u := ⟨_, rfl⟩
          obtain ⟨y, hy, hyx⟩ := insert_old (k := j) s.data.toList (by rw [← Hn.out]; exact hjN) hx
          rw [← Hlx.out] at hy
          rw [hu1] at v1
          have Hyx := Lib.hid hyx
          have HU1 := Lib.hid hu1
          clear hyx hu1
          have hcase : (x.2 = [] ∧ w4 = w4) ∨ x.2 ≠ [] := by
            by_cases e : x.2 = []
            · exact .inl ⟨e, rfl⟩
            · exact .inr e
          by_cases hjk : j ≤ k
          · have q6 : (j : Int) ≤ (k : Int) := by omega
            rw [if_pos hjk] at hy
            obtain ⟨b5, o5, hA5, _, z1, z2⟩ := (Hin4.out.below hw).at_ hy
            injection hA5 with hA5
            injection hA5 with e5 e6
            subst e5; subst e6
            simp only at z1
            rw [HU1.out] at z1
            rcases hcase with ⟨hem, _⟩ | hem
            · have v3 : wr.cell? ⟨b1, o1 + k * 2 + 1, none⟩ = some (.string ⟨#[]⟩) := by rw [v2, hem]; rfl
              have Hx := Lib.hid hx
              clear hx hy z2 hem v2
              go_wp2_with fail
              go_quiet (fail)
              go_wp2_with fail
              go_roundw
              case rel => exact ⟨k + 1, by omega, by go_num, below_drewN hw _⟩
              case measure => simp [intOf]; omega
            · obtain ⟨u2, hu2⟩ : ∃ u : ByteArray, u = ⟨x.2.toArray⟩ := ⟨_, rfl⟩
              have e2 : encs x.2 = .string u2 := by rw [hu2]; rfl
              have e3 : u2.toList ≠ [] := by rw [ByteArray.toList_eq, hu2]; exact hem
              have e4 : u2.toList.isEmpty = false := by rw [List.isEmpty_eq_false_iff]; exact e3
              have e5 : (u2.toList == ([] : List UInt8)) = false := by simpa using e3
              have v3 : wr.cell? ⟨b1, o1 + k * 2 + 1, none⟩ = some (.string u2) := by rw [v2, e2]
              have z3 : wr.cell? ⟨b4, o4 + (k + 1) * 2 + 1, none⟩ = some (.string u2) := by rw [z2]; simp only; rw [Hyx.out hem, e2]
              have Hx := Lib.hid hx
              clear hx hy z2 hem v2 hu2 e2
              go_wp2_with fail
              go_quiet (fail)
              go_wp2_with fail
              go_roundw
              case rel => exact ⟨k + 1, by omega, by go_num, below_drewN hw _⟩
              case measure => simp [intOf]; omega
          · have q6 : (k : Int) < (j : Int) := by omega
            rw [if_neg hjk] at hy
            obtain ⟨b5, o5, hA5, _, z1, z2⟩ := (Hin4.out.below hw).at_ hy
            injection hA5 with hA5
            injection hA5 with e5 e6
            subst e5; subst e6
            simp only at z1
            rw [HU1.out] at z1
            rcases hcase with ⟨hem, _⟩ | hem
            · have v3 : wr.cell? ⟨b1, o1 + k * 2 + 1, none⟩ = some (.string ⟨#[]⟩) := by rw [v2, hem]; rfl
              have Hx := Lib.hid hx
              clear hx hy z2 hem v2
              go_wp2_with fail
              go_quiet (fail)
              go_wp2_with fail
              go_roundw
              case rel => exact ⟨k + 1, by omega, by go_num, below_drewN hw _⟩
              case measure => simp [intOf]; omega
            · obtain ⟨u2, hu2⟩ : ∃ u : ByteArray, u = ⟨x.2.toArray⟩ := ⟨_, rfl⟩
              have e2 : encs x.2 = .string u2 := by rw [hu2]; rfl
              have e3 : u2.toList ≠ [] := by rw [ByteArray.toList_eq, hu2]; exact hem
              have e4 : u2.toList.isEmpty = false := by rw [List.isEmpty_eq_false_iff]; exact e3
              have e5 : (u2.toList == ([] : List UInt8)) = false := by simpa using e3
              have v3 : wr.cell? ⟨b1, o1 + k * 2 + 1, none⟩ = some (.string u2) := by rw [v2, e2]
              have z3 : wr.cell? ⟨b4, o4 + k * 2 + 1, none⟩ = some (.string u2) := by rw [z2]; simp only; rw [Hyx.out hem, e2]
              have Hx := Lib.hid hx
              clear hx hy z2 hem v2 hu2 e2
              go_wp2_with fail
              go_quiet (fail)
              go_wp2_with fail
              go_roundw
              case rel => exact ⟨k + 1, by omega, by go_num, below_drewN hw _⟩
              case measure => simp [intOf]; omega
        · have q0 : (N : Int) ≤ (k : Int) := by omega
          obtain ⟨z, hz⟩ : ∃ z : ByteArray, z = ⟨(join lx).toArray⟩ := ⟨_, rfl⟩
          have hzl : z.data.toList = join lx := by rw [hz]
          have hzs : z.size = (join lx).length := by rw [← hzl]; exact Array.length_toList.symm
          have hze : encs (join lx) = .string z := by rw [hz]; rfl
          have hsz : (split z.data.toList).length = N + 1 := by rw [hzl, Hgx.out.count, Hxl.out]
          have hJ := join_any lx (some ⟨b4, o4, none⟩) (N + 1) c4 wr.heap.size wr (Nat.le_refl _) ((Hin4.out.below hw).more hw.size) (by omega) Hjx.out
          rw [hze] at hJ
          have HJ2 := Lib.hid hJ
          have HS2 : Hid (∀ W, Calls Try.prog 10 #[.string z] W fun e w' => ∃ A c, e = .returned (.slice A (N + 1) c) ∧ Below W.heap.size W w') := Lib.hid (fun W => by
            refine (split_big z W (by have := Hjx.out; omega) (by rw [hsz]; omega)).mono ?_
            rintro e w' ⟨A, c, rfl, _, hb⟩
            rw [hsz]
            exact ⟨A, c, rfl, hb⟩)
          clear hz hzl hzs hze hsz hJ
          go_wp2_with fail
          (with_reducible refine HJ2.out.mono ?_)
          rintro e w6 ⟨rfl, hb6⟩
          go_wp2_with fail
          (with_reducible refine (HS2.out _).mono ?_)
          rintro e w7 ⟨A7, c7, rfl, hb7⟩
          go_wp2_with fail
          go_ret
          exact ⟨rfl, HB13.out.trans ((hww.trans ((hb6.trans (hb7.mono hb6.size)).mono hww.size)).mono HB13.out.size)⟩
end Go.Proofs.Ytcnadiddgllejaa.Li
