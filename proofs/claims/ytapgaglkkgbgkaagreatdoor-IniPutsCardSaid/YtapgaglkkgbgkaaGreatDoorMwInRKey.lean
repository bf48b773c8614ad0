/- The reference's reading of ini's lines: keys. Conditions: texts of 4000 bytes at most. · ini: the lines of a file as the chapter's reference reads them, one behind the other, are the tree of its parts; plain mathematics. No conditions. -/
import Derived.Test.YtapgaglkkgbgkaaGreatDoorMwInRWord
import Derived.Test.YtapgaglkkgbgkaaGreatDoorMwInSelf
namespace Go.Proofs.YtapgaglkkgbgkaaGreatDoor.In
open Go.RowKit Go.Proofs.YtapgaglkkgbgkaaGreatDoor.Li Go.Proofs.YtapgaglkkgbgkaaGreatDoor.Cv
set_option maxRecDepth 100000

theorem ah_cons {b : UInt8} {l : Bs} (h : b ≠ 61) : ahead (b :: l) = b :: ahead l := by simp [ahead, h]
theorem ah_at : ∀ (l : Bs) (k : Nat) (h : k < l.length), k ≤ (ahead l).length → (l[k] = 61 → (ahead l).length = k) ∧ (l[k] ≠ 61 → k + 1 ≤ (ahead l).length)
  | b :: l, 0, _, _ => ⟨fun e => by have e' : b = 61 := e; subst e'; rfl, fun e => by have e' : b ≠ 61 := e; rw [ah_cons e']; simp⟩
  | b :: l, k + 1, h, hk => by
    have hb : b ≠ 61 := by rintro rfl; exact absurd hk (by show ¬ k + 1 ≤ 0; omega)
    rw [ah_cons hb] at hk ⊢
    have h' : k < l.length := by simpa using h
    have i := ah_at l k h' (by simpa using hk)
    simp only [List.getElem_cons_succ, List.length_cons]
    exact ⟨fun e => by rw [i.1 e], fun e => Nat.succ_le_succ (i.2 e)⟩
theorem ah_all : ∀ l : Bs, (ahead l).length = l.length → l.contains 61 = false
  | [], _ => rfl
  | b :: l, h => by
    by_cases hb : b = 61
    · subst hb; exact absurd h (by show ¬ 0 = l.length + 1; omega)
    · rw [ah_cons hb] at h
      rw [List.contains_cons, ah_all l (by simpa using h), beq_eq_false_iff_ne.2 (Ne.symm hb)]; rfl
theorem ah_take (l : Bs) : l.take (ahead l).length = ahead l := (List.prefix_iff_eq_take.1 (List.takeWhile_prefix (l := l) (p := (· != 61)))).symm
theorem mi_le (s : ByteArray) : (mi s).size ≤ s.size := (by rw [mi_size]; have := en_le s.data.toList; have h : s.data.toList.length = s.size := rfl; omega)
theorem fr_le (s : ByteArray) : (fr s).data.toList = front s.data.toList ∧ (fr s).size ≤ s.size := by
  have e : (fr s).data.toList = front s.data.toList := rfl
  refine ⟨e, ?_⟩
  show (fr s).data.toList.length ≤ s.data.toList.length
  rw [e, front, List.length_take]; omega

set_option maxHeartbeats 4000000 in
theorem rread_key (s : ByteArray) (w : World) (hs : s.size ≤ 4000) (c : UInt8) (m : Bs) (hcr : s.data.toList.contains 13 = false) (hmd : mid s.data.toList = c :: m) (h59 : c ≠ 59) (h35 : c ≠ 35) (h91 : c ≠ 91) : Calls Tryz.prog 51 #[.string s] w (RrP w (readR s.data.toList)) := by
  obtain ⟨R, hR⟩ : ∃ R, R = readR s.data.toList := ⟨_, rfl⟩
  rw [← hR]
  unfold readR at hR
  obtain ⟨W1, hW1⟩ : ∃ W, W = onez w := ⟨_, rfl⟩
  obtain ⟨hb1, hk1⟩ := onez_ok w
  rw [← hW1] at hb1 hk1
  have HB1 := Lib.hid hb1
  have HK1 := Lib.hid hk1
  clear hb1 hk1
  unfold onez at hW1
  have HCr := Lib.hid (fun W => cr_any s W (by omega))
  rw [hcr] at HCr
  rw [hcr, hmd] at hR
  rw [if_neg (by simp)] at hR
  replace hR : R = if c = 59 ∨ c = 35 then ⟨0, [], [], [], 0, 0⟩ else if c = 91 then (if m.getLast? = some 93 ∧ secB m.dropLast = true then ⟨1, m.dropLast, [], [], 0, 0⟩ else noR) else keyRr s.data.toList (c :: m) := hR
  rw [if_neg (by rintro (h | h); exact h59 h; exact h35 h), if_neg h91, ← hmd] at hR
  unfold keyRr at hR
  obtain ⟨f1, hf1⟩ : ∃ x, x = fr s := ⟨_, rfl⟩
  obtain ⟨x, hx⟩ : ∃ x, x = mi s := ⟨_, rfl⟩
  obtain ⟨y1, hy1⟩ : ∃ x, x = ba s := ⟨_, rfl⟩
  have HT : Hid (∀ W, Calls Tryz.prog 72 #[.string s] W fun e w' => e = .returned (.tuple #[.string f1, .string x, .string y1]) ∧ Below W.heap.size W w') := by
    rw [hf1, hx, hy1]; exact Lib.hid (fun W => rtrim_any s W (by omega))
  have hxl : x.data.toList = mid s.data.toList := by rw [hx, mi_mid]
  have hd : x.data.toList = c :: m := by rw [hxl, hmd]
  rw [← hxl] at hR
  have hxs : x.size ≤ 4000 := Nat.le_trans (by rw [hx]; exact mi_le s) hs
  have hfs : f1.size ≤ 4000 := Nat.le_trans (by rw [hf1]; exact (fr_le s).2) hs
  have hfl : (front s.data.toList).length = f1.size := by rw [← (fr_le s).1, ← hf1]; rfl
  rw [hfl] at hR
  have HR0 := Lib.hid hR
  have he2 : (x.toList == ([] : List UInt8)) = false := by rw [empty_eq, hd]; rfl
  have h0 : 0 < x.size := by have h : x.size = x.data.toList.length := rfl; rw [h, hd]; exact Nat.succ_pos _
  have h0I : (0 : Int) < (x.size : Int) := by omega
  have hc : x[0] = c := by
    have h1 := drop_at h0
    rw [List.drop_zero, hd] at h1
    exact (List.cons.inj h1).1.symm
  have n0 := ne_toNat (n := 59) (by decide) h59
  have n1 := ne_toNat (n := 35) (by decide) h35
  have n2 := ne_toNat (n := 91) (by decide) h91
  rw [← hc] at n0 n1 n2
  have q0 : ((x[0].toNat : Int) == 59) = false := by simp; omega
  have q1 : ((x[0].toNat : Int) == 35) = false := by simp; omega
  have q2 : ((x[0].toNat : Int) == 91) = false := by simp; omega
  clear hf1 hx hy1 hs hmd hcr hc n0 n1 n2 h59 h35 h91 hd hxl hfl hR
  go_enter Tryz.func51, Tryz.ntmps51
  go_upto_region 1 with (fail)
  rw [← hW1]
  clear hW1
  go_wp2_with fail
  (with_reducible refine (HT.out _).mono ?_)
  rintro e w1 ⟨rfl, hb1⟩
  have HBx := Lib.hid (HB1.out.trans (hb1.mono HB1.out.size))
  have hz := HK1.out w1 hb1
  obtain ⟨c0, c1, c2, c3, c4, c5⟩ := hz.cells
  obtain ⟨z0, z1, z2, z3, z4, z5⟩ := hz.free
  have HZ := Lib.hid hz
  clear hz hb1
  go_wp2_with fail
  (with_reducible refine (HCr.out _).mono ?_)
  rintro e w2 ⟨rfl, rfl⟩
  go_wp2_with fail
  clear q0 q1 q2 he2
  go_loopw [6] (fun i wr => ∃ (k : Nat), k ≤ x.size ∧ i = .int .i64 k ∧ Hid (k ≤ (ahead x.data.toList).length) ∧ Hid (wr = w1)) (fun i _ => x.size - (intOf i).toNat)
  case atStart => exact ⟨0, Nat.zero_le _, rfl, Lib.hid (Nat.zero_le _), Lib.hid rfl⟩
  case round =>
    obtain ⟨k, hk, rfl, HA, HW⟩ := hrel
    obtain rfl := HW.out
    have hkf : k ≤ 4000 := by omega
    by_cases hlt : k < x.size
    · have hkI : (k : Int) < (x.size : Int) := by omega
      have hk0 : (0 : Int) ≤ (k : Int) := by omega
      have ha := ah_at x.data.toList k hlt HA.out
      have hxk : x.data.toList[k]'hlt = x[k] := by rw [Array.getElem_toList]; rfl
      rw [hxk] at ha
      by_cases h61 : x[k] = 61
      · have hak := ha.1 h61
        have hcon : x.data.toList.contains 61 = true := List.contains_iff_mem.2 (by rw [← h61, ← hxk]; exact List.getElem_mem _)
        have hne : ((k : Int) == (x.size : Int)) = false := by rw [beq_eq_false_iff_ne]; omega
        have hne2 : ¬ (k : Int) = (x.size : Int) := by omega
        have q7 : ((x[k].toNat : Int) == 61) = true := by rw [h61]; rfl
        have e7 : (x[k].toNat : Int) = 61 := by rw [h61]; rfl
        have hk1 : (k : Int) + 1 ≤ (x.size : Int) := by omega
        have hA1 : (x.extract 0 k).data.toList = ahead x.data.toList := by
          rw [Lib.extract_eq, ← ah_take, hak]; rfl
        have hA2 : (x.extract (k + 1) x.size).data.toList = behind x.data.toList := by
          rw [Lib.extract_eq, behind, hak]
          simp
          exact List.take_of_length_le (by rw [List.length_drop]; exact Nat.le_refl _)
        have hz1 : (x.extract 0 k).size ≤ 4000 := by
          show (x.extract 0 k).data.toList.length ≤ 4000
          rw [hA1, hak]; omega
        have hz2 : (x.extract (k + 1) x.size).size ≤ 4000 := by
          show (x.extract (k + 1) x.size).data.toList.length ≤ 4000
          rw [hA2, behind, List.length_drop]
          have h : x.size = x.data.toList.length := rfl
          omega
        have hR := HR0.out
        rw [if_neg (by rw [hcon]; decide), ← hA1, ← hA2, hA1, hak, ← hA1] at hR
        have HT2' := fun W => rtrim_any (x.extract 0 k) W (by omega)
        have HT3' := fun W => rtrim_any (x.extract (k + 1) x.size) W (by omega)
        obtain ⟨p1, hp1⟩ : ∃ p, p = x.extract 0 k := ⟨_, rfl⟩
        obtain ⟨p2, hp2⟩ : ∃ p, p = x.extract (k + 1) x.size := ⟨_, rfl⟩
        obtain ⟨y2, hy2⟩ : ∃ y, y = mi (x.extract 0 k) := ⟨_, rfl⟩
        obtain ⟨y3, hy3⟩ : ∃ y, y = mi (x.extract (k + 1) x.size) := ⟨_, rfl⟩
        obtain ⟨f2, hf2⟩ : ∃ y, y = fr (x.extract 0 k) := ⟨_, rfl⟩
        obtain ⟨f3, hf3⟩ : ∃ y, y = fr (x.extract (k + 1) x.size) := ⟨_, rfl⟩
        obtain ⟨g2, hg2⟩ : ∃ y, y = ba (x.extract 0 k) := ⟨_, rfl⟩
        obtain ⟨g3, hg3⟩ : ∃ y, y = ba (x.extract (k + 1) x.size) := ⟨_, rfl⟩
        have HT2 : Hid (∀ W, Calls Tryz.prog 72 #[.string (x.extract 0 k)] W fun e w' => e = .returned (.tuple #[.string f2, .string y2, .string g2]) ∧ Below W.heap.size W w') := by
          rw [hf2, hy2, hg2]; exact Lib.hid HT2'
        have HT3 : Hid (∀ W, Calls Tryz.prog 72 #[.string (x.extract (k + 1) x.size)] W fun e w' => e = .returned (.tuple #[.string f3, .string y3, .string g3]) ∧ Below W.heap.size W w') := by
          rw [hf3, hy3, hg3]; exact Lib.hid HT3'
        have hy2s : y2.size ≤ 4000 := Nat.le_trans (by rw [hy2]; exact mi_le _) hz1
        have hy3s : y3.size ≤ 4000 := Nat.le_trans (by rw [hy3]; exact mi_le _) hz2
        have hf3s : f3.size ≤ 4000 := Nat.le_trans (by rw [hf3]; exact (fr_le _).2) hz2
        have m2 : mid (x.extract 0 k).data.toList = y2.data.toList := by rw [hy2, mi_mid]
        have m3 : mid (x.extract (k + 1) x.size).data.toList = y3.data.toList := by rw [hy3, mi_mid]
        have l3 : (front (x.extract (k + 1) x.size).data.toList).length = f3.size := by rw [← (fr_le _).1, ← hf3]; rfl
        rw [m2, m3, l3, isB_eq, valB_eq] at hR
        have HKy := Lib.hid (fun W => rkey_any y2 W (by omega))
        have HVl := Lib.hid (fun W => rvalue_any y3 W (by omega))
        obtain ⟨v, hv⟩ : ∃ v, v = In.kB y2.data.toList := ⟨_, rfl⟩
        obtain ⟨u, hu⟩ : ∃ u, u = In.vB y3.data.toList := ⟨_, rfl⟩
        rw [← hv] at HKy hR
        rw [← hu] at HVl hR
        clear HT2' HT3' hp1 hp2 hy2 hy3 hf2 hf3 hg2 hg3 m2 m3 l3 hv hu hz1 hz2 hA1 hA2 hcon hak ha hxk h61 HA
        cases v with
        | false =>
          rw [if_neg (by simp)] at hR
          have HR := Lib.hid hR
          clear hR
          go_wp2_with fail
          (with_reducible refine (HT2.out _).mono ?_)
          rintro e w3 ⟨rfl, hb3⟩
          have hz := HZ.out.below hb3
          obtain ⟨c0, c1, c2, c3, c4, c5⟩ := hz.cells
          obtain ⟨z0, z1, z2, z3, z4, z5⟩ := hz.free
          have HZ2 := Lib.hid hz
          have HBx2 := Lib.hid (HBx.out.trans (hb3.mono HBx.out.size))
          clear hz hb3
          go_wp2_with fail
          (with_reducible refine (HT3.out _).mono ?_)
          rintro e w4 ⟨rfl, hb4⟩
          have hz := HZ2.out.below hb4
          obtain ⟨c0, c1, c2, c3, c4, c5⟩ := hz.cells
          obtain ⟨z0, z1, z2, z3, z4, z5⟩ := hz.free
          have HZ3 := Lib.hid hz
          have HBx3 := Lib.hid (HBx2.out.trans (hb4.mono HBx2.out.size))
          clear hz hb4
          go_wp2_with fail
          (with_reducible refine (HKy.out _).mono ?_)
          rintro e w5 ⟨rfl, hb5⟩
          have hz := HZ3.out.below hb5
          obtain ⟨c0, c1, c2, c3, c4, c5⟩ := hz.cells
          obtain ⟨z0, z1, z2, z3, z4, z5⟩ := hz.free
          have HZ4 := Lib.hid hz
          have HBx4 := Lib.hid (HBx3.out.trans (hb5.mono HBx3.out.size))
          clear hz hb5
          go_wp2_with fail
          obtain ⟨d0, d1, d2, d3, d4, d5⟩ := (HZ4.out.set (.int .i64 3) (.string ⟨#[]⟩) (.string ⟨#[]⟩) (.string ⟨#[]⟩) (.int .i64 0) (.int .i64 0)).cells
          refine bodyPost_ret (v := .agg #[.int .i64 3, .string ⟨#[]⟩, .string ⟨#[]⟩, .string ⟨#[]⟩, .int .i64 0, .int .i64 0]) (by simp [results, Tryz.results51, go_sem, d0, d1, d2, d3, d4, d5]) rfl ?_
          exact ⟨by rw [HR.out]; rfl, below6 HBx4.out (Nat.le_refl _) _ _ _ _ _ _⟩
        | true =>
          cases u with
          | false =>
            rw [if_neg (by simp)] at hR
            have HR := Lib.hid hR
            clear hR
            go_wp2_with fail
            (with_reducible refine (HT2.out _).mono ?_)
            rintro e w3 ⟨rfl, hb3⟩
            have hz := HZ.out.below hb3
            obtain ⟨c0, c1, c2, c3, c4, c5⟩ := hz.cells
            obtain ⟨z0, z1, z2, z3, z4, z5⟩ := hz.free
            have HZ2 := Lib.hid hz
            have HBx2 := Lib.hid (HBx.out.trans (hb3.mono HBx.out.size))
            clear hz hb3
            go_wp2_with fail
            (with_reducible refine (HT3.out _).mono ?_)
            rintro e w4 ⟨rfl, hb4⟩
            have hz := HZ2.out.below hb4
            obtain ⟨c0, c1, c2, c3, c4, c5⟩ := hz.cells
            obtain ⟨z0, z1, z2, z3, z4, z5⟩ := hz.free
            have HZ3 := Lib.hid hz
            have HBx3 := Lib.hid (HBx2.out.trans (hb4.mono HBx2.out.size))
            clear hz hb4
            go_wp2_with fail
            (with_reducible refine (HKy.out _).mono ?_)
            rintro e w5 ⟨rfl, hb5⟩
            have hz := HZ3.out.below hb5
            obtain ⟨c0, c1, c2, c3, c4, c5⟩ := hz.cells
            obtain ⟨z0, z1, z2, z3, z4, z5⟩ := hz.free
            have HZ4 := Lib.hid hz
            have HBx4 := Lib.hid (HBx3.out.trans (hb5.mono HBx3.out.size))
            clear hz hb5
            go_wp2_with fail
            (with_reducible refine (HVl.out _).mono ?_)
            rintro e w6 ⟨rfl, hb6⟩
            have hz := HZ4.out.below hb6
            obtain ⟨c0, c1, c2, c3, c4, c5⟩ := hz.cells
            obtain ⟨z0, z1, z2, z3, z4, z5⟩ := hz.free
            have HZ5 := Lib.hid hz
            have HBx5 := Lib.hid (HBx4.out.trans (hb6.mono HBx4.out.size))
            clear hz hb6
            go_wp2_with fail
            obtain ⟨d0, d1, d2, d3, d4, d5⟩ := (HZ5.out.set (.int .i64 3) (.string ⟨#[]⟩) (.string ⟨#[]⟩) (.string ⟨#[]⟩) (.int .i64 0) (.int .i64 0)).cells
            refine bodyPost_ret (v := .agg #[.int .i64 3, .string ⟨#[]⟩, .string ⟨#[]⟩, .string ⟨#[]⟩, .int .i64 0, .int .i64 0]) (by simp [results, Tryz.results51, go_sem, d0, d1, d2, d3, d4, d5]) rfl ?_
            exact ⟨by rw [HR.out]; rfl, below6 HBx5.out (Nat.le_refl _) _ _ _ _ _ _⟩
          | true =>
            rw [if_pos ⟨rfl, rfl⟩] at hR
            have HR := Lib.hid hR
            clear hR
            go_wp2_with fail
            (with_reducible refine (HT2.out _).mono ?_)
            rintro e w3 ⟨rfl, hb3⟩
            have hz := HZ.out.below hb3
            obtain ⟨c0, c1, c2, c3, c4, c5⟩ := hz.cells
            obtain ⟨z0, z1, z2, z3, z4, z5⟩ := hz.free
            have HZ2 := Lib.hid hz
            have HBx2 := Lib.hid (HBx.out.trans (hb3.mono HBx.out.size))
            clear hz hb3
            go_wp2_with fail
            (with_reducible refine (HT3.out _).mono ?_)
            rintro e w4 ⟨rfl, hb4⟩
            have hz := HZ2.out.below hb4
            obtain ⟨c0, c1, c2, c3, c4, c5⟩ := hz.cells
            obtain ⟨z0, z1, z2, z3, z4, z5⟩ := hz.free
            have HZ3 := Lib.hid hz
            have HBx3 := Lib.hid (HBx2.out.trans (hb4.mono HBx2.out.size))
            clear hz hb4
            go_wp2_with fail
            (with_reducible refine (HKy.out _).mono ?_)
            rintro e w5 ⟨rfl, hb5⟩
            have hz := HZ3.out.below hb5
            obtain ⟨c0, c1, c2, c3, c4, c5⟩ := hz.cells
            obtain ⟨z0, z1, z2, z3, z4, z5⟩ := hz.free
            have HZ4 := Lib.hid hz
            have HBx4 := Lib.hid (HBx3.out.trans (hb5.mono HBx3.out.size))
            clear hz hb5
            go_wp2_with fail
            (with_reducible refine (HVl.out _).mono ?_)
            rintro e w6 ⟨rfl, hb6⟩
            have hz := HZ4.out.below hb6
            obtain ⟨c0, c1, c2, c3, c4, c5⟩ := hz.cells
            obtain ⟨z0, z1, z2, z3, z4, z5⟩ := hz.free
            have HZ5 := Lib.hid hz
            have HBx5 := Lib.hid (HBx4.out.trans (hb6.mono HBx4.out.size))
            clear hz hb6
            go_wp2_with fail
            obtain ⟨d0, d1, d2, d3, d4, d5⟩ := (HZ5.out.set (.int .i64 2) (.string ⟨#[]⟩) (.string y2) (.string y3) (.int .i64 ((f1.size : Int) + (k : Int) + 1 + (f3.size : Int))) (.int .i64 ((f1.size : Int) + (k : Int) + 1 + (f3.size : Int) + (y3.size : Int)))).cells
            refine bodyPost_ret (v := .agg #[.int .i64 2, .string ⟨#[]⟩, .string y2, .string y3, .int .i64 ((f1.size : Int) + (k : Int) + 1 + (f3.size : Int)), .int .i64 ((f1.size : Int) + (k : Int) + 1 + (f3.size : Int) + (y3.size : Int))]) (by simp [results, Tryz.results51, go_sem, d0, d1, d2, d3, d4, d5]) rfl ?_
            exact ⟨by rw [HR.out]; simp [rrv]; exact ⟨rfl, rfl, rfl⟩, below6 HBx5.out (Nat.le_refl _) _ _ _ _ _ _⟩
      · have q7 : ((x[k].toNat : Int) == 61) = false := by
          have := ne_toNat (n := 61) (by decide) h61
          simp; omega
        have e7 : ¬ (x[k].toNat : Int) = 61 := by have := ne_toNat (n := 61) (by decide) h61; omega
        have HA2 := Lib.hid (ha.2 h61)
        clear ha hxk h61 HA
        go_wp2_with fail
        go_roundw
        case rel => exact ⟨k + 1, hlt, by go_num, HA2, (by first | exact Lib.hid trivial | exact Lib.hid rfl)⟩
        case measure => simp [intOf]; omega
    · obtain rfl : k = x.size := by omega
      have HR : Hid (R = noR) := Lib.hid (by
        rw [HR0.out, if_pos (ah_all _ (Nat.le_antisymm (ahead_len _) HA.out))])
      clear hlt HA HR0
      go_wp2_with fail
      obtain ⟨d0, d1, d2, d3, d4, d5⟩ := (HZ.out.set (.int .i64 3) (.string ⟨#[]⟩) (.string ⟨#[]⟩) (.string ⟨#[]⟩) (.int .i64 0) (.int .i64 0)).cells
      refine bodyPost_ret (v := .agg #[.int .i64 3, .string ⟨#[]⟩, .string ⟨#[]⟩, .string ⟨#[]⟩, .int .i64 0, .int .i64 0]) (by simp [results, Tryz.results51, go_sem, d0, d1, d2, d3, d4, d5]) rfl ?_
      exact ⟨by rw [HR.out]; rfl, below6 HBx.out (Nat.le_refl _) _ _ _ _ _ _⟩

/-- The reference's read answers a line as the document reads it. -/
theorem rread_any (s : ByteArray) (w : World) (hs : s.size ≤ 4000) : Calls Tryz.prog 51 #[.string s] w (RrP w (readR s.data.toList)) := by
  cases hcr : s.data.toList.contains 13 with
  | true => exact rread_some s w hs (.inl hcr)
  | false =>
    cases hmd : mid s.data.toList with
    | nil => exact rread_some s w hs (.inr (.inl hmd))
    | cons c m =>
      by_cases h59 : c = 59
      · exact rread_some s w hs (.inr (.inr ⟨c, m, hmd, .inl h59⟩))
      · by_cases h35 : c = 35
        · exact rread_some s w hs (.inr (.inr ⟨c, m, hmd, .inr h35⟩))
        · by_cases h91 : c = 91
          · subst h91; exact rread_head s w hs m hcr hmd
          · exact rread_key s w hs c m hcr hmd h59 h35 h91
end Go.Proofs.YtapgaglkkgbgkaaGreatDoor.In
namespace Go.Proofs.YtapgaglkkgbgkaaGreatDoor.In
open Go.RowKit Go.Sort Go.Proofs.YtapgaglkkgbgkaaGreatDoor.Jd Go.Proofs.YtapgaglkkgbgkaaGreatDoor.Cl Go.Proofs.YtapgaglkkgbgkaaGreatDoor.Li Go.Proofs.YtapgaglkkgbgkaaGreatDoor.Cv Go.Proofs.YtapgaglkkgbgkaaGreatDoor.Pt
set_option maxRecDepth 100000

theorem asc_ext {t u : Tr} (ht : t.Asc) (hu : u.Asc) (h : ∀ q k, (q, k) ∈ eds t ↔ (q, k) ∈ eds u) : t = u := by
  refine asc_perm ht hu ?_
  rw [List.perm_ext_iff_of_nodup (eds_nodup ht) (eds_nodup hu)]
  rintro ⟨q, k⟩
  exact h q k
theorem mem_with {t : Tr} (ht : t.Asc) {n : ByteArray} {x : Tr} {q : ByteArray} {k : Tr} : (q, k) ∈ eds (t.withT n x) ↔ (q = n ∧ k = x) ∨ (q ≠ n ∧ (q, k) ∈ eds t) := by
  rw [mem_eds (withT_asc ht)]
  by_cases h : q = n
  · subst h
    obtain ⟨a, b⟩ := with_is (name := q) (x := x) (t := t)
    rw [a, b]
    constructor
    · rintro ⟨_, h⟩; exact .inl ⟨rfl, h.symm⟩
    · rintro (⟨_, h⟩ | ⟨h, _⟩)
      · exact ⟨rfl, h.symm⟩
      · exact absurd rfl h
  · have hb : (n.toList == q.toList) = false := by
      rw [beq_eq_false_iff_ne]
      intro e
      exact h (bytes_eq e).symm
    obtain ⟨a, b⟩ := with_other (x := x) hb ht
    rw [a, b, ← mem_eds ht]
    constructor
    · intro hm; exact .inr ⟨h, hm⟩
    · rintro (⟨e, _⟩ | ⟨_, hm⟩)
      · exact absurd e h
      · exact hm
theorem at_keys {ks : List (Bs × Bs)} (hn : (ks.map (·.1)).Nodup) (q : Bs) : (srtE (keysK ks)).atIs (mk q) = true ↔ q ∈ ks.map (·.1) := by
  constructor
  · intro h
    obtain ⟨e, he, h1, _⟩ := mem_keys.1 ((mem_eds (asc_keys hn) (mk q) _).2 ⟨h, rfl⟩)
    exact List.mem_map.2 ⟨e, he, mk_inj h1⟩
  · intro h
    obtain ⟨e, he, rfl⟩ := List.mem_map.1 h
    exact ((mem_eds (asc_keys hn) _ _).1 (mem_keys.2 ⟨e, he, rfl, rfl⟩)).1
theorem at_secs {S : Sa} (hn : (S.map (·.1)).Nodup) (q : Bs) : (srtE (secsS S)).atIs (mk q) = true ↔ q ∈ S.map (·.1) := by
  constructor
  · intro h
    obtain ⟨e, he, h1, _⟩ := mem_secs.1 ((mem_eds (asc_secs hn) (mk q) _).2 ⟨h, rfl⟩)
    exact List.mem_map.2 ⟨e, he, mk_inj h1⟩
  · intro h
    obtain ⟨e, he, rfl⟩ := List.mem_map.1 h
    exact ((mem_eds (asc_secs hn) _ _).1 (mem_secs.2 ⟨e, he, rfl, rfl⟩)).1
theorem kid_secs {S : Sa} (hn : (S.map (·.1)).Nodup) {e : Bs × List (Bs × Bs)} (he : e ∈ S) : kidT (srtE (secsS S)) (mk e.1) = srtE (keysK e.2) := ((mem_eds (asc_secs hn) _ _).1 (mem_secs.2 ⟨e, he, rfl, rfl⟩)).2
/-- One more key. -/
theorem keys_more {ks : List (Bs × Bs)} {k v : Bs} (hn : ((ks ++ [(k, v)]).map (·.1)).Nodup) : (srtE (keysK ks)).withT (mk k) (.cons (mk v) .nil .nil) = srtE (keysK (ks ++ [(k, v)])) := by
  have h1 : (ks.map (·.1)).Nodup := by rw [List.map_append] at hn; exact (List.nodup_append.1 hn).1
  have h2 : k ∉ ks.map (·.1) := by
    rw [List.map_append, List.nodup_append] at hn
    intro h
    exact hn.2.2 _ h k (by simp) rfl
  refine asc_ext (withT_asc (asc_keys h1)) (asc_keys hn) fun q K => ?_
  rw [mem_with (asc_keys h1), mem_keys, mem_keys]
  constructor
  · rintro (⟨rfl, rfl⟩ | ⟨_, e, he, h3⟩)
    · exact ⟨(k, v), by simp, rfl, rfl⟩
    · exact ⟨e, by simp [he], h3⟩
  · rintro ⟨e, he, h3, h4⟩
    rcases List.mem_append.1 he with he | he
    · refine .inr ⟨?_, e, he, h3, h4⟩
      intro hq
      rw [hq] at h3
      exact h2 (by rw [← mk_inj h3]; exact List.mem_map_of_mem he)
    · obtain rfl := List.mem_singleton.1 he
      exact .inl ⟨h3.symm, h4.symm⟩
/-- A section put over the last one, or behind all. -/
theorem secs_more {S is : Sa} {q : Bs} {ks : List (Bs × Bs)} (hS : (S.map (·.1)).Nodup) (hn : ((is ++ [(q, ks)]).map (·.1)).Nodup) (h : S = is ∨ ∃ ks', S = is ++ [(q, ks')]) : (srtE (secsS S)).withT (mk q) (srtE (keysK ks)) = srtE (secsS (is ++ [(q, ks)])) := by
  have h2 : q ∉ is.map (·.1) := by
    rw [List.map_append, List.nodup_append] at hn
    intro h
    exact hn.2.2 _ h q (by simp) rfl
  refine asc_ext (withT_asc (asc_secs hS)) (asc_secs hn) fun Q K => ?_
  rw [mem_with (asc_secs hS), mem_secs, mem_secs]
  constructor
  · rintro (⟨rfl, rfl⟩ | ⟨hq, e, he, h3, h4⟩)
    · exact ⟨(q, ks), by simp, rfl, rfl⟩
    · rcases h with rfl | ⟨ks', rfl⟩
      · exact ⟨e, by simp [he], h3, h4⟩
      · rcases List.mem_append.1 he with he | he
        · exact ⟨e, by simp [he], h3, h4⟩
        · obtain rfl := List.mem_singleton.1 he
          exact absurd h3.symm hq
  · rintro ⟨e, he, h3, h4⟩
    rcases List.mem_append.1 he with he | he
    · refine .inr ⟨?_, e, ?_, h3, h4⟩
      · intro hq
        rw [hq] at h3
        exact h2 (by rw [← mk_inj h3]; exact List.mem_map_of_mem he)
      · rcases h with rfl | ⟨ks', rfl⟩
        · exact he
        · simp [he]
    · obtain rfl := List.mem_singleton.1 he
      exact .inl ⟨h3.symm, h4.symm⟩
def faultS (S : Sa) (r : Ro) : Int :=
  if r.kind = 0 ∨ (r.kind = 3 ∧ S.length = 1) then 6 else
  if r.kind = 2 ∧ r.name ∈ S.map (·.1) then 7 else
  if r.kind = 3 ∧ r.name ∈ (lastS S).2.map (·.1) then 7 else 0
theorem lastS_abs {ps : List Pt} (h : ps ≠ []) : lastS (absP ps) = ((lastP ps).name, absR (lastP ps).rows) := by
  rcases List.eq_nil_or_concat ps with rfl | ⟨is, p, e⟩
  · exact absurd rfl h
  · rw [List.concat_eq_append] at e
    subst e
    rw [lastP_app, absP_app]
    exact lastS_app _ _
theorem fault_abs {ps : List Pt} (h : ps ≠ []) (r : Ro) : faultI ps r = faultS (absP ps) r := by
  unfold faultI faultS
  rw [absP_len, lastS_abs h]
  dsimp only
  simp only [any_names, any_keys]
/-- The reference's rows: what they are, the tree; or the line that has a fault, and which one. -/
def rowsR : Tr → Bs → Bool → Nat → List Rr → List Ln → List Rr × Tr × Nat × Int
  | t, _, _, _, out, [] => (out, t, 0, 0)
  | t, sec, inn, i, out, x :: l =>
    if (readR x.1).kind = 3 ∨ ((readR x.1).kind = 2 ∧ inn = false) then ([], .nil, i + 1, 6) else
    if (readR x.1).kind = 1 then
      (if t.atIs (mk (readR x.1).sec) = true then ([], .nil, i + 1, 7) else rowsR (t.withT (mk (readR x.1).sec) .nil) (readR x.1).sec true (i + 1) (out ++ [readR x.1]) l) else
    if (readR x.1).kind = 2 then
      (if (kidT t (mk sec)).atIs (mk (readR x.1).key) = true then ([], .nil, i + 1, 7) else
        rowsR (t.withT (mk sec) ((kidT t (mk sec)).withT (mk (readR x.1).key) (.cons (mk (readR x.1).val) .nil .nil))) sec inn (i + 1) (out ++ [{ readR x.1 with sec := sec }]) l) else
    rowsR t sec inn (i + 1) (out ++ [readR x.1]) l
def Inv (ps : List Pt) (S : Sa) : Prop := absP ps = ([], []) :: S ∧ (S.map (·.1)).Nodup ∧ ∀ e ∈ S, (e.2.map (·.1)).Nodup ∧ e.1 ≠ []
theorem toR_kind (r : Ro) : (toR r).kind = if r.kind = 0 then 3 else r.kind - 1 := rfl
theorem sec_ne {x : Ln} (hk : (rowI x).kind = 2) : (rowI x).name ≠ [] := by
  intro e
  have := sec_name hk
  rw [e] at this
  revert this
  decide
theorem lastS_cons (e : Bs × List (Bs × Bs)) (is : Sa) (f : Bs × List (Bs × Bs)) : lastS (e :: (is ++ [f])) = f := by rw [← List.cons_append, lastS_app]
/-- The reference's row of a row in a section of that name. -/
def tagQ (q : Bs) (r : Ro) : Rr := if r.kind = 1 then toR r else { toR r with sec := q }
def tagsP (ps : List Pt) : List Rr := ps.flatMap fun p => p.rows.map (tagQ p.name)
theorem tags_add {ps : List Pt} (h : ps ≠ []) (r : Ro) : tagsP (addI ps r) = tagsP ps ++ [tagQ (if r.kind = 2 then r.name else (lastP ps).name) r] := by
  unfold addI
  by_cases hk : r.kind = 2
  · rw [if_pos hk, if_pos hk]
    simp [tagsP]
  · rw [if_neg hk, if_neg hk]
    rcases List.eq_nil_or_concat ps with rfl | ⟨is, p, e⟩
    · exact absurd rfl h
    · rw [List.concat_eq_append] at e
      subst e
      rw [lastP_app, List.dropLast_concat]
      simp [tagsP]
/-- What the reference answers, of what the parts are. -/
def Tells (p : List Pt × Nat × Int) (R : List Rr × Tr × Nat × Int) : Prop := (p.2.2 ≠ 0 → R = ([], .nil, p.2.1, p.2.2)) ∧ (p.2.2 = 0 → R.2 = (treeI p.1, 0, 0)) ∧ (p.2.2 = 0 → R.1 = tagsP p.1)
theorem tells_bad {n : Nat} {e : Int} (h : e ≠ 0) : Tells ([], n, e) ([], .nil, n, e) := ⟨fun _ => rfl, fun h2 => absurd h2 h, fun h2 => absurd h2 h⟩
theorem rows_ref : ∀ (ls : List Ln) (ps : List Pt) (S : Sa) (i : Nat) (out : List Rr), Inv ps S → out = tagsP ps → Tells (partsI ps i ls) (rowsR (srtE (secsS S)) (lastS (absP ps)).1 (decide (S ≠ [])) i out ls)
  | [], ps, S, i, out, h, ho => by
    refine ⟨fun h => absurd rfl h, fun _ => ?_, fun _ => by rw [partsI, rowsR]; exact ho⟩
    rw [partsI, rowsR]
    show (srtE (secsS S), 0, (0 : Int)) = _
    rw [tree_eq, show absP ps.tail = (absP ps).tail from List.map_tail, h.1]
    rfl
  | x :: ls, ps, S, i, out, h, ho => by
    obtain ⟨hab, hn, hk⟩ := h
    have hps : ps ≠ [] := by rintro rfl; cases hab
    have hst := st_abs hps (row_kind x).1
    have hfa := fault_abs hps (rowI x)
    have hrow : readR x.1 = toR (rowI x) := readR_eq x.1 x.2
    have hbad : ∀ e, faultI ps (rowI x) = e → e ≠ 0 → partsI ps i (x :: ls) = ([], i + 1, e) := by
      intro e he h0
      rw [partsI, if_pos (by rw [he]; exact h0), he]
    have hgood : faultI ps (rowI x) = 0 → partsI ps i (x :: ls) = partsI (addI ps (rowI x)) (i + 1) ls := by
      intro he
      rw [partsI, if_neg (by rw [he]; simp)]
    rw [rowsR, hrow]
    have hc : (rowI x).kind = 0 ∨ (rowI x).kind = 1 ∨ (rowI x).kind = 2 ∨ (rowI x).kind = 3 := by have := (row_kind x).1; omega
    rcases hc with c | c | c | c
    · have hf : faultI ps (rowI x) = 6 := by rw [hfa, faultS, if_pos (.inl c)]
      have k3 : (toR (rowI x)).kind = 3 := by rw [toR_kind, if_pos c]
      rw [hbad 6 hf (by decide), if_pos (.inl k3)]
      exact tells_bad (by decide)
    · have hf : faultI ps (rowI x) = 0 := by rw [hfa, faultS, if_neg (by omega), if_neg (by omega), if_neg (by omega)]
      have k0 : (toR (rowI x)).kind = 0 := by rw [toR_kind, if_neg (by omega)]; omega
      rw [hgood hf, if_neg (by omega), if_neg (by omega), if_neg (by omega)]
      rw [hf, if_neg (by simp), stS, if_pos c] at hst
      injection hst with hst
      rw [hst]
      exact rows_ref ls _ S _ _ ⟨by rw [← hst]; exact hab, hn, hk⟩ (by rw [tags_add hps, ho, tagQ, if_pos c])
    · have k1 : (toR (rowI x)).kind = 1 := by rw [toR_kind, if_neg (by omega)]; omega
      have hs : (toR (rowI x)).sec = (rowI x).name := by rw [toR]; exact if_pos c
      have hne := sec_ne c
      have hmem : (rowI x).name ∈ (absP ps).map (·.1) ↔ (rowI x).name ∈ S.map (·.1) := by
        rw [hab, List.map_cons, List.mem_cons]
        exact ⟨fun h => h.resolve_left hne, .inr⟩
      have hat := at_secs hn (rowI x).name
      rw [if_neg (show ¬ ((toR (rowI x)).kind = 3 ∨ (toR (rowI x)).kind = 2 ∧ decide (S ≠ []) = false) by omega), if_pos k1, hs]
      by_cases hm : (rowI x).name ∈ S.map (·.1)
      · have hf : faultI ps (rowI x) = 7 := by rw [hfa, faultS, if_neg (by omega), if_pos ⟨c, hmem.2 hm⟩]
        rw [hbad 7 hf (by decide), if_pos (hat.2 hm)]
        exact tells_bad (by decide)
      · have hf : faultI ps (rowI x) = 0 := by rw [hfa, faultS, if_neg (by omega), if_neg (fun h => hm (hmem.1 h.2)), if_neg (by omega)]
        rw [hgood hf, if_neg (fun h => hm (hat.1 h))]
        rw [hf, if_neg (by simp), stS, if_neg (by omega), if_pos c, if_neg (fun h => hm (hmem.1 h))] at hst
        injection hst with hst
        have hab2 : absP (addI ps (rowI x)) = ([], []) :: (S ++ [((rowI x).name, [])]) := by rw [← hst, hab]; rfl
        have hn2 : ((S ++ [((rowI x).name, ([] : List (Bs × Bs)))]).map (·.1)).Nodup := by
          rw [List.map_append, List.nodup_append]
          refine ⟨hn, by simp, ?_⟩
          intro a ha b hb e
          subst e
          simp at hb
          subst hb
          exact hm ha
        have hw := secs_more hn hn2 (.inl rfl)
        rw [keysK, srtE_nil] at hw
        rw [hw]
        have ih := rows_ref ls (addI ps (rowI x)) (S ++ [((rowI x).name, [])]) (i + 1) (out ++ [toR (rowI x)]) ⟨hab2, hn2, by
          intro e he
          rcases List.mem_append.1 he with he | he
          · exact hk e he
          · obtain rfl := List.mem_singleton.1 he
            exact ⟨by simp, hne⟩⟩ (by
          rw [tags_add hps, ho, if_pos c, tagQ, if_neg (by omega)]
          congr 2
          rw [← hs])
        rw [hab2, lastS_cons, show decide (S ++ [((rowI x).name, ([] : List (Bs × Bs)))] ≠ []) = true by simp] at ih
        exact ih
    · have k2 : (toR (rowI x)).kind = 2 := by rw [toR_kind, if_neg (by omega)]; omega
      have hky : (toR (rowI x)).key = (rowI x).name := by rw [toR]; exact if_pos c
      have hvl : (toR (rowI x)).val = (rowI x).val := rfl
      rcases List.eq_nil_or_concat S with rfl | ⟨is, ⟨q, ks⟩, e⟩
      · have hf : faultI ps (rowI x) = 6 := by rw [hfa, faultS, hab, if_pos (.inr ⟨c, rfl⟩)]
        rw [hbad 6 hf (by decide), if_pos (.inr ⟨k2, by simp⟩)]
        exact tells_bad (by decide)
      · rw [List.concat_eq_append] at e
        subst e
        have hl : lastS (absP ps) = (q, ks) := by rw [hab, lastS_cons]
        have hlen : (absP ps).length ≠ 1 := by rw [hab]; simp
        have hkd : kidT (srtE (secsS (is ++ [(q, ks)]))) (mk q) = srtE (keysK ks) := kid_secs hn (e := (q, ks)) (by simp)
        have hkn := hk (q, ks) (by simp)
        have hat := at_keys hkn.1 (rowI x).name
        have hnb : ¬ ((toR (rowI x)).kind = 3 ∨ (toR (rowI x)).kind = 2 ∧ decide (is ++ [(q, ks)] ≠ []) = false) := by
          rintro (h | ⟨_, h⟩)
          · omega
          · simp at h
        rw [hl, if_neg hnb, if_neg (show ¬ (toR (rowI x)).kind = 1 by omega), if_pos k2, hky, hvl]
        dsimp only
        rw [hkd]
        by_cases hm : (rowI x).name ∈ ks.map (·.1)
        · have hf : faultI ps (rowI x) = 7 := by rw [hfa, faultS, if_neg (fun h => h.elim (by omega) fun h => hlen h.2), if_neg (by omega), hl, if_pos ⟨c, hm⟩]
          rw [hbad 7 hf (by decide), if_pos (hat.2 hm)]
          exact tells_bad (by decide)
        · have hf : faultI ps (rowI x) = 0 := by rw [hfa, faultS, if_neg (fun h => h.elim (by omega) fun h => hlen h.2), if_neg (by omega), hl, if_neg (fun h => hm h.2)]
          rw [hgood hf, if_neg (fun h => hm (hat.1 h))]
          rw [hf, if_neg (by simp), stS, if_neg (by omega), if_neg (by omega), if_pos c, hl, if_neg (fun h => h.elim hlen hm)] at hst
          injection hst with hst
          have hab2 : absP (addI ps (rowI x)) = ([], []) :: (is ++ [(q, ks ++ [((rowI x).name, (rowI x).val)])]) := by
            rw [← hst, hab, ← List.cons_append, List.dropLast_concat]
            rfl
          have hkn2 : ((ks ++ [((rowI x).name, (rowI x).val)]).map (·.1)).Nodup := by
            rw [List.map_append, List.nodup_append]
            refine ⟨hkn.1, by simp, ?_⟩
            intro a ha b hb e
            subst e
            simp at hb
            subst hb
            exact hm ha
          have hn2 : ((is ++ [(q, ks ++ [((rowI x).name, (rowI x).val)])]).map (·.1)).Nodup := by simpa using hn
          rw [keys_more hkn2, secs_more hn hn2 (.inr ⟨ks, rfl⟩)]
          have ih := rows_ref ls (addI ps (rowI x)) (is ++ [(q, ks ++ [((rowI x).name, (rowI x).val)])]) (i + 1) (out ++ [{ toR (rowI x) with sec := q }]) ⟨hab2, hn2, by
            intro e he
            rcases List.mem_append.1 he with he | he
            · exact hk e (by simp [he])
            · obtain rfl := List.mem_singleton.1 he
              exact ⟨hkn2, hkn.2⟩⟩ (by
            have hq : (lastP ps).name = q := by
              have := lastS_abs hps
              rw [hl] at this
              injection this with h1 _
              exact h1.symm
            rw [tags_add hps, ho, if_neg (by omega), hq, tagQ, if_neg (by omega)])
          rw [hab2, lastS_cons, show decide (is ++ [(q, ks ++ [((rowI x).name, (rowI x).val)])] ≠ []) = decide (is ++ [(q, ks)] ≠ []) by simp] at ih
          exact ih
/-- What the reference's Load answers. -/
def loadR (l : Bs) : Tr × Nat × Int :=
  if 4000 < l.length then (.nil, 0, 5) else
  if (rowsR .nil [] false 0 [] (split l)).2.2.2 ≠ 0 then (.nil, (rowsR .nil [] false 0 [] (split l)).2.2.1, (rowsR .nil [] false 0 [] (split l)).2.2.2) else
  if (rowsR .nil [] false 0 [] (split l)).2.1.fault ≠ 0 then (.nil, (rowsR .nil [] false 0 [] (split l)).2.2.1, ((rowsR .nil [] false 0 [] (split l)).2.1.fault : Nat)) else ((rowsR .nil [] false 0 [] (split l)).2.1, 0, 0)
theorem load_same (l : Bs) : loadR l = readI l := by
  unfold loadR readI
  by_cases h1 : 4000 < l.length
  · rw [if_pos h1, if_pos h1]
  · rw [if_neg h1, if_neg h1]
    have h := rows_ref (split l) [⟨[], []⟩] [] 0 [] ⟨rfl, by simp, fun _ h => by cases h⟩ rfl
    rw [show secsS [] = .nil from rfl, srtE_nil, show (lastS (absP [⟨[], []⟩])).1 = [] from rfl, show decide (([] : Sa) ≠ []) = false by simp] at h
    by_cases h2 : (partsI [⟨[], []⟩] 0 (split l)).2.2 ≠ 0
    · rw [h.1 h2, if_pos h2]
      exact (if_pos h2).symm
    · rw [if_neg h2, h.2.1 (Classical.not_not.1 h2), if_neg (by simp)]
/-- The rows that the reference keeps. -/
theorem rows_tags {l : Bs} (h : (partsI [⟨[], []⟩] 0 (split l)).2.2 = 0) : rowsR .nil [] false 0 [] (split l) = (tagsP (partsI [⟨[], []⟩] 0 (split l)).1, treeI (partsI [⟨[], []⟩] 0 (split l)).1, 0, 0) := by
  have hr := rows_ref (split l) [⟨[], []⟩] [] 0 [] ⟨rfl, by simp, fun _ h => by cases h⟩ rfl
  rw [show secsS [] = .nil from rfl, srtE_nil, show (lastS (absP [⟨[], []⟩])).1 = [] from rfl, show decide (([] : Sa) ≠ []) = false by simp] at hr
  exact Prod.ext (hr.2.2 h) (hr.2.1 h)
end Go.Proofs.YtapgaglkkgbgkaaGreatDoor.In
