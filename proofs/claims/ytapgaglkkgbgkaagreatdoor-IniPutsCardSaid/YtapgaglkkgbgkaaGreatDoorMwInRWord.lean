/- The reference's words of ini: are there no blanks at a text's ends; what may be a value. Conditions: texts of 100000 bytes at most. · ini: a line as the chapter's reference reads it is the line as ini reads it; plain mathematics. No conditions. · The reference's reading of ini's lines: remarks, headers, lines with a 13. Conditions: texts of 4000 bytes at most. -/
import Derived.Test.YtapgaglkkgbgkaaGreatDoorMwInTnM
import Derived.Test.YtapgaglkkgbgkaaGreatDoorMwCvGrow
import Derived.Test.YtapgaglkkgbgkaaGreatDoorMwLiSplit
import Derived.Test.YtapgaglkkgbgkaaGreatDoorMwRcRows
import Derived.Test.YtapgaglkkgbgkaaGreatDoorMwInRow
namespace Go.Proofs.YtapgaglkkgbgkaaGreatDoor.In
open Go.RowKit Go.Proofs.YtapgaglkkgbgkaaGreatDoor.Li Go.Proofs.YtapgaglkkgbgkaaGreatDoor.Cv
set_option maxRecDepth 100000

set_option maxHeartbeats 1000000 in
theorem redges_any (s : ByteArray) (w : World) (hs : s.size ≤ 100000) : Calls Tryz.prog 60 #[.string s] w fun e w' => e = .returned (.bool (mid s.data.toList == s.data.toList)) ∧ Below w.heap.size w w' := by
  have HT := Lib.hid (rtrim_any s w (by omega))
  obtain ⟨u, hu⟩ : ∃ u, u = ((mi s).toList == s.toList) := ⟨_, rfl⟩
  have HV : Hid ((mid s.data.toList == s.data.toList) = u) := Lib.hid (by rw [hu, same_eq', mi_mid])
  have hu' := hu.symm
  clear hu
  cases u with
  | false =>
    go_enter Tryz.func60, Tryz.ntmps60
    go_wp2_with fail
    (with_reducible refine HT.out.mono ?_)
    rintro e w1 ⟨rfl, hb1⟩
    go_wp2_with fail
    go_ret
    exact ⟨by rw [HV.out]; rfl, hb1⟩
  | true =>
    go_enter Tryz.func60, Tryz.ntmps60
    go_wp2_with fail
    (with_reducible refine HT.out.mono ?_)
    rintro e w1 ⟨rfl, hb1⟩
    go_wp2_with fail
    go_ret
    exact ⟨by rw [HV.out]; rfl, hb1⟩

set_option maxHeartbeats 1000000 in
theorem rvalue_any (s : ByteArray) (w : World) (hs : s.size ≤ 100000) : Calls Tryz.prog 39 #[.string s] w fun e w' => e = .returned (.bool (In.vB s.data.toList)) ∧ Below w.heap.size w w' := by
  have HE := Lib.hid (fun W => redges_any s W hs)
  have HC := Lib.hid (fun W => bare_any s W (by omega))
  by_cases hz : s.size ≤ 80
  · obtain ⟨v, hv⟩ : ∃ v, v = Lib.containsAny s.data.toList [10, 13] := ⟨_, rfl⟩
    obtain ⟨u, hu⟩ : ∃ u, u = (mid s.data.toList == s.data.toList) := ⟨_, rfl⟩
    have HV : Hid (In.vB s.data.toList = (u && !v)) := Lib.hid (by rw [In.vB, ← hu, ← hv, decide_eq_true (show s.data.toList.length ≤ 80 from hz), Bool.and_true])
    rw [← hv] at HC
    rw [← hu] at HE
    have hz' : (s.size : Int) ≤ 80 := by omega
    clear hv hu hz hs
    cases v with
    | true =>
      go_enter Tryz.func39, Tryz.ntmps39
      go_wp2_with fail
      (with_reducible refine (HC.out _).mono ?_)
      rintro e w1 ⟨rfl, rfl⟩
      go_wp2_with fail
      go_ret
      exact ⟨by rw [HV.out]; cases u <;> rfl, Below.refl _ _⟩
    | false =>
      go_enter Tryz.func39, Tryz.ntmps39
      go_wp2_with fail
      (with_reducible refine (HC.out _).mono ?_)
      rintro e w1 ⟨rfl, rfl⟩
      go_wp2_with fail
      (with_reducible refine (HE.out _).mono ?_)
      rintro e w2 ⟨rfl, hb2⟩
      go_wp2_with fail
      go_ret
      exact ⟨by rw [HV.out]; cases u <;> rfl, hb2⟩
  · have HV : Hid (In.vB s.data.toList = false) := Lib.hid (by rw [In.vB, decide_eq_false (show ¬ s.data.toList.length ≤ 80 from hz)]; simp)
    have hz' : ¬ (s.size : Int) ≤ 80 := by omega
    clear hz
    go_enter Tryz.func39, Tryz.ntmps39
    go_wp2_with fail
    go_ret
    exact ⟨by rw [HV.out]; rfl, Below.refl _ _⟩

theorem some_b (s : ByteArray) : (!(s.data.toList == [])) = decide (0 < s.size) := by
  have e : s.size = s.data.toList.length := rfl
  rw [e]
  cases s.data.toList <;> simp
theorem n_vB (s : ByteArray) : (!(s.data.toList == []) && In.vB s.data.toList) = (Cv.nB s && (mid s.data.toList == s.data.toList)) := by
  rw [some_b, In.vB, Cv.nB, Cv.vB, show s.data.toList.length = s.size from rfl]
  cases (mid s.data.toList == s.data.toList) <;> simp
theorem c61 : ∀ l : List UInt8, l.contains 61 = l.any fun x => ([61] : List UInt8).contains x
  | [] => rfl
  | x :: r => by
    rw [List.contains_cons, List.any_cons, c61 r]
    by_cases h : x = 61
    · subst h; rfl
    · rw [beq_eq_false_iff_ne.2 (Ne.symm h), show ([61] : List UInt8).contains x = false by simp [h]]

set_option maxHeartbeats 1000000 in
theorem rsection_any (s : ByteArray) (w : World) (hs : s.size ≤ 100000) : Calls Tryz.prog 37 #[.string s] w fun e w' => e = .returned (.bool (sB s.data.toList)) ∧ Below w.heap.size w w' := by
  have HE := Lib.hid (fun W => redges_any s W hs)
  have HN := Lib.hid (fun W => plain_any s W (by omega))
  obtain ⟨d, hd⟩ : ∃ d, d = sB s.data.toList := ⟨_, rfl⟩
  obtain ⟨n, hn⟩ : ∃ n, n = Cv.nB s := ⟨_, rfl⟩
  obtain ⟨m, hm⟩ : ∃ m, m = (mid s.data.toList == s.data.toList) := ⟨_, rfl⟩
  obtain ⟨z, hz⟩ : ∃ z, z = true := ⟨_, rfl⟩
  have HP : Hid (d = ((n && m && z) && !(s.data.toList.any fun x => ([91, 93] : List UInt8).contains x))) := Lib.hid (by rw [hd, sB, n_vB, any_mem, hn, hm, hz, Bool.and_true])
  have Hz := Lib.hid hz
  rw [← hd]
  rw [← hn] at HN
  rw [← hm] at HE
  clear hd hn hm hz
  go_enter Tryz.func37, Tryz.ntmps37
  go_wp2_with fail
  go_loopw [3] (fun i wr => ∃ (k : Nat), k ≤ s.size ∧ i = .int .i64 k ∧ Hid (d = ((n && m && z) && !((s.data.toList.drop k).any fun x => ([91, 93] : List UInt8).contains x))) ∧ Hid (wr = w)) (fun i _ => s.size - (intOf i).toNat)
  case atStart => exact ⟨0, Nat.zero_le _, rfl, Lib.hid (by rw [HP.out]; rfl), Lib.hid rfl⟩
  case round =>
    obtain ⟨k, hk, rfl, HR, HW⟩ := hrel
    by_cases hlt : k < s.size
    · have hkn : (k : Int) < (s.size : Int) := by omega
      have hk0 : (0 : Int) ≤ (k : Int) := by omega
      have hrel := HR.out
      rw [drop_at hlt, List.any_cons] at hrel
      by_cases h91 : s[k] = 91
      · have q0 : ((s[k].toNat : Int) == 91) = true := by rw [h91]; rfl
        have HR2 : Hid (d = false) := Lib.hid (by rw [hrel, h91]; exact Bool.and_false _)
        have Hlt := Lib.hid hlt
        clear h91 hrel HR
        go_wp2_with fail
        go_ret
        obtain rfl := HW.out
        exact ⟨by rw [HR2.out]; rfl, Below.refl _ _⟩
      · have n91 : s[k].toNat ≠ 91 := ne_toNat (by decide) h91
        have q0 : ((s[k].toNat : Int) == 91) = false := by simp; omega
        by_cases h93 : s[k] = 93
        · have q1 : ((s[k].toNat : Int) == 93) = true := by rw [h93]; rfl
          have HR2 : Hid (d = false) := Lib.hid (by rw [hrel, h93]; exact Bool.and_false _)
          have Hlt := Lib.hid hlt
          clear h91 h93 hrel HR n91
          go_wp2_with fail
          go_ret
          obtain rfl := HW.out
          exact ⟨by rw [HR2.out]; rfl, Below.refl _ _⟩
        · have n93 : s[k].toNat ≠ 93 := ne_toNat (by decide) h93
          have q1 : ((s[k].toNat : Int) == 93) = false := by simp; omega
          have eC : ([91, 93] : List UInt8).contains s[k] = false := by simp [h91, h93]
          rw [eC, Bool.false_or] at hrel
          have HR2 := Lib.hid hrel
          have Hlt := Lib.hid hlt
          clear h91 h93 hrel HR eC n91 n93
          go_wp2_with fail
          go_roundw
          case rel => exact ⟨k + 1, Hlt.out, by go_num, HR2, HW⟩
          case measure => have := Hlt.out; simp [intOf]; omega
    · obtain rfl : k = s.size := by omega
      have HR2 : Hid (d = (n && m && z)) := Lib.hid (by rw [HR.out, drop_end]; exact Bool.and_true _)
      obtain rfl := HW.out
      clear hlt HR HP
      cases n with
      | false =>
        go_wp2_with fail
        (with_reducible refine (HN.out _).mono ?_)
        rintro e w1 ⟨rfl, rfl⟩
        go_wp2_with fail
        go_ret
        exact ⟨by rw [HR2.out]; rfl, Below.refl _ _⟩
      | true =>
        go_wp2_with fail
        (with_reducible refine (HN.out _).mono ?_)
        rintro e w1 ⟨rfl, rfl⟩
        go_wp2_with fail
        (with_reducible refine (HE.out _).mono ?_)
        rintro e w2 ⟨rfl, hb2⟩
        go_wp2_with fail
        go_ret
        exact ⟨by rw [HR2.out, Hz.out]; cases m <;> rfl, hb2⟩

set_option maxHeartbeats 2000000 in
theorem rkey_any (s : ByteArray) (w : World) (hs : s.size ≤ 100000) : Calls Tryz.prog 38 #[.string s] w fun e w' => e = .returned (.bool (In.kB s.data.toList)) ∧ Below w.heap.size w w' := by
  have HE := Lib.hid (fun W => redges_any s W hs)
  have HN := Lib.hid (fun W => plain_any s W (by omega))
  obtain ⟨d, hd⟩ : ∃ d, d = In.kB s.data.toList := ⟨_, rfl⟩
  obtain ⟨n, hn⟩ : ∃ n, n = Cv.nB s := ⟨_, rfl⟩
  obtain ⟨m, hm⟩ : ∃ m, m = (mid s.data.toList == s.data.toList) := ⟨_, rfl⟩
  obtain ⟨z, hz⟩ : ∃ z, z = !(Lib.containsAny (s.data.toList.take 1) [91, 59, 35]) := ⟨_, rfl⟩
  have HP : Hid (d = ((n && m && z) && !(s.data.toList.any fun x => ([61] : List UInt8).contains x))) := Lib.hid (by
    rw [hd, In.kB, n_vB, c61, hn, hm, hz]
    rw [Bool.and_assoc, Bool.and_comm (!(List.any _ _)), ← Bool.and_assoc])
  have Hz : Hid (n = true → ∃ h0 : 0 < s.size, (s[0] = 91 ∧ z = false) ∨ (s[0] = 59 ∧ z = false) ∨ (s[0] = 35 ∧ z = false) ∨ (s[0] ≠ 91 ∧ s[0] ≠ 59 ∧ s[0] ≠ 35 ∧ z = true)) := Lib.hid (by
    intro h
    have h0 : 0 < s.size := by
      rw [hn, Cv.nB] at h
      simp at h
      omega
    refine ⟨h0, ?_⟩
    have ht : s.data.toList.take 1 = [s[0]] := by
      have := drop_at h0
      rw [List.drop_zero] at this
      rw [this]; rfl
    rw [hz, any_mem, ht]
    by_cases a : s[0] = 91
    · exact .inl ⟨a, by rw [a]; rfl⟩
    · by_cases b : s[0] = 59
      · exact .inr (.inl ⟨b, by rw [b]; rfl⟩)
      · by_cases c : s[0] = 35
        · exact .inr (.inr (.inl ⟨c, by rw [c]; rfl⟩))
        · exact .inr (.inr (.inr ⟨a, b, c, by simp [a, b, c]⟩)))
  rw [← hd]
  rw [← hn] at HN
  rw [← hm] at HE
  clear hd hn hm hz
  go_enter Tryz.func38, Tryz.ntmps38
  go_wp2_with fail
  go_loopw [3] (fun i wr => ∃ (k : Nat), k ≤ s.size ∧ i = .int .i64 k ∧ Hid (d = ((n && m && z) && !((s.data.toList.drop k).any fun x => ([61] : List UInt8).contains x))) ∧ Hid (wr = w)) (fun i _ => s.size - (intOf i).toNat)
  case atStart => exact ⟨0, Nat.zero_le _, rfl, Lib.hid (by rw [HP.out]; rfl), Lib.hid rfl⟩
  case round =>
    obtain ⟨k, hk, rfl, HR, HW⟩ := hrel
    by_cases hlt : k < s.size
    · have hkn : (k : Int) < (s.size : Int) := by omega
      have hk0 : (0 : Int) ≤ (k : Int) := by omega
      have hrel := HR.out
      rw [drop_at hlt, List.any_cons] at hrel
      by_cases h61 : s[k] = 61
      · have q0 : ((s[k].toNat : Int) == 61) = true := by rw [h61]; rfl
        have HR2 : Hid (d = false) := Lib.hid (by rw [hrel, h61]; exact Bool.and_false _)
        have Hlt := Lib.hid hlt
        clear h61 hrel HR
        go_wp2_with fail
        go_ret
        obtain rfl := HW.out
        exact ⟨by rw [HR2.out]; rfl, Below.refl _ _⟩
      · have n61 : s[k].toNat ≠ 61 := ne_toNat (by decide) h61
        have q0 : ((s[k].toNat : Int) == 61) = false := by simp; omega
        have eC : ([61] : List UInt8).contains s[k] = false := by simp [h61]
        rw [eC, Bool.false_or] at hrel
        have HR2 := Lib.hid hrel
        have Hlt := Lib.hid hlt
        clear h61 hrel HR eC n61
        go_wp2_with fail
        go_roundw
        case rel => exact ⟨k + 1, Hlt.out, by go_num, HR2, HW⟩
        case measure => have := Hlt.out; simp [intOf]; omega
    · obtain rfl : k = s.size := by omega
      have HR2 : Hid (d = (n && m && z)) := Lib.hid (by rw [HR.out, drop_end]; exact Bool.and_true _)
      obtain rfl := HW.out
      clear hlt HR HP
      cases n with
      | false =>
        go_wp2_with fail
        (with_reducible refine (HN.out _).mono ?_)
        rintro e w1 ⟨rfl, rfl⟩
        go_wp2_with fail
        go_ret
        exact ⟨by rw [HR2.out]; rfl, Below.refl _ _⟩
      | true =>
        cases m with
        | false =>
          go_wp2_with fail
          (with_reducible refine (HN.out _).mono ?_)
          rintro e w1 ⟨rfl, rfl⟩
          go_wp2_with fail
          (with_reducible refine (HE.out _).mono ?_)
          rintro e w2 ⟨rfl, hb2⟩
          go_wp2_with fail
          go_ret
          exact ⟨by rw [HR2.out]; rfl, hb2⟩
        | true =>
          obtain ⟨h0, hz0⟩ := Hz.out rfl
          have h0I : (0 : Int) < (s.size : Int) := by omega
          rcases hz0 with ⟨hb, hzz⟩ | ⟨hb, hzz⟩ | ⟨hb, hzz⟩ | ⟨hb1, hb2, hb3, hzz⟩
          · have q0 : ((s[0].toNat : Int) == 91) = true := by rw [hb]; rfl
            have e0 : (s[0].toNat : Int) = 91 := by rw [hb]; rfl
            have HR3 : Hid (d = false) := Lib.hid (by rw [HR2.out, hzz]; rfl)
            clear hb hzz HR2
            go_wp2_with fail
            (with_reducible refine (HN.out _).mono ?_)
            rintro e w1 ⟨rfl, rfl⟩
            go_wp2_with fail
            (with_reducible refine (HE.out _).mono ?_)
            rintro e w2 ⟨rfl, hb2⟩
            go_wp2_with fail
            go_ret
            exact ⟨by rw [HR3.out]; rfl, hb2⟩
          · have q0 : ((s[0].toNat : Int) == 91) = false := by rw [hb]; rfl
            have e0 : ¬ (s[0].toNat : Int) = 91 := by rw [hb]; decide
            have q1 : ((s[0].toNat : Int) == 59) = true := by rw [hb]; rfl
            have e1 : (s[0].toNat : Int) = 59 := by rw [hb]; rfl
            have HR3 : Hid (d = false) := Lib.hid (by rw [HR2.out, hzz]; rfl)
            clear hb hzz HR2
            go_wp2_with fail
            (with_reducible refine (HN.out _).mono ?_)
            rintro e w1 ⟨rfl, rfl⟩
            go_wp2_with fail
            (with_reducible refine (HE.out _).mono ?_)
            rintro e w2 ⟨rfl, hb2⟩
            go_wp2_with fail
            go_ret
            exact ⟨by rw [HR3.out]; rfl, hb2⟩
          · have q0 : ((s[0].toNat : Int) == 91) = false := by rw [hb]; rfl
            have e0 : ¬ (s[0].toNat : Int) = 91 := by rw [hb]; decide
            have q1 : ((s[0].toNat : Int) == 59) = false := by rw [hb]; rfl
            have e1 : ¬ (s[0].toNat : Int) = 59 := by rw [hb]; decide
            have q2 : ((s[0].toNat : Int) == 35) = true := by rw [hb]; rfl
            have e2 : (s[0].toNat : Int) = 35 := by rw [hb]; rfl
            have HR3 : Hid (d = false) := Lib.hid (by rw [HR2.out, hzz]; rfl)
            clear hb hzz HR2
            go_wp2_with fail
            (with_reducible refine (HN.out _).mono ?_)
            rintro e w1 ⟨rfl, rfl⟩
            go_wp2_with fail
            (with_reducible refine (HE.out _).mono ?_)
            rintro e w2 ⟨rfl, hb2⟩
            go_wp2_with fail
            go_ret
            exact ⟨by rw [HR3.out]; rfl, hb2⟩
          · have n0 := ne_toNat (n := 91) (by decide) hb1
            have n1 := ne_toNat (n := 59) (by decide) hb2
            have n2 := ne_toNat (n := 35) (by decide) hb3
            have e0 : ¬ (s[0].toNat : Int) = 91 := by omega
            have q0 : ((s[0].toNat : Int) == 91) = false := by simp; omega
            have e1 : ¬ (s[0].toNat : Int) = 59 := by omega
            have q1 : ((s[0].toNat : Int) == 59) = false := by simp; omega
            have e2 : ¬ (s[0].toNat : Int) = 35 := by omega
            have q2 : ((s[0].toNat : Int) == 35) = false := by simp; omega
            have HR3 : Hid (d = true) := Lib.hid (by rw [HR2.out, hzz]; rfl)
            clear hb1 hb2 hb3 hzz HR2 n0 n1 n2
            go_wp2_with fail
            (with_reducible refine (HN.out _).mono ?_)
            rintro e w1 ⟨rfl, rfl⟩
            go_wp2_with fail
            (with_reducible refine (HE.out _).mono ?_)
            rintro e w2 ⟨rfl, hb2⟩
            go_wp2_with fail
            go_ret
            exact ⟨by rw [HR3.out]; show Ending.returned (Value.bool (((s[0].toNat : Int) != 91) && ((s[0].toNat : Int) != 59) && ((s[0].toNat : Int) != 35))) = _; rw [bne, bne, bne, q0, q1, q2]; rfl, hb2⟩

end Go.Proofs.YtapgaglkkgbgkaaGreatDoor.In
namespace Go.Proofs.YtapgaglkkgbgkaaGreatDoor.In
open Go.RowKit Go.Proofs.YtapgaglkkgbgkaaGreatDoor.Li Go.Proofs.YtapgaglkkgbgkaaGreatDoor.Cv Go.Proofs.YtapgaglkkgbgkaaGreatDoor.Pt
set_option maxRecDepth 100000

def plainL (s : Bs) : Bool := !(s == []) && decide (s.length ≤ 80) && !(Lib.containsAny s [10, 13])
def secB (s : Bs) : Bool := !(Lib.containsAny s [91, 93]) && plainL s && (mid s == s)
def isB (s : Bs) : Bool := !(s.contains 61) && plainL s && (mid s == s) && !(Lib.containsAny (s.take 1) [91, 59, 35])
def valB (s : Bs) : Bool := decide (s.length ≤ 80) && !(Lib.containsAny s [10, 13]) && (mid s == s)
theorem secB_eq (s : Bs) : secB s = sB s := by
  unfold secB sB plainL vB
  generalize (s == []) = a
  generalize decide (s.length ≤ 80) = b
  generalize Lib.containsAny s [10, 13] = c
  generalize Lib.containsAny s [91, 93] = d
  generalize (mid s == s) = e
  revert a b c d e
  decide
theorem isB_eq (s : Bs) : isB s = kB s := by
  unfold isB kB plainL vB
  generalize (s == []) = a
  generalize decide (s.length ≤ 80) = b
  generalize Lib.containsAny s [10, 13] = c
  generalize Lib.containsAny (s.take 1) [91, 59, 35] = d
  generalize (mid s == s) = e
  generalize s.contains 61 = f
  revert a b c d e f
  decide
theorem valB_eq (s : Bs) : valB s = vB s := by
  unfold valB vB
  generalize decide (s.length ≤ 80) = b
  generalize Lib.containsAny s [10, 13] = c
  generalize (mid s == s) = e
  revert b c e
  decide
/-- The reference's row: remark 0, header 1, key 2, none 3. -/
structure Rr where
  kind : Nat
  sec : Bs
  key : Bs
  val : Bs
  at0 : Nat
  at1 : Nat
def noR : Rr := ⟨3, [], [], [], 0, 0⟩
def keyRr (s m : Bs) : Rr :=
  if m.contains 61 = false then noR else
  if isB (mid (ahead m)) = true ∧ valB (mid (behind m)) = true then
    ⟨2, [], mid (ahead m), mid (behind m), (front s).length + (ahead m).length + 1 + (front (behind m)).length, (front s).length + (ahead m).length + 1 + (front (behind m)).length + (mid (behind m)).length⟩ else noR
def readR (s : Bs) : Rr :=
  if s.contains 13 = true then noR else
  match mid s with
  | [] => ⟨0, [], [], [], 0, 0⟩
  | c :: m => if c = 59 ∨ c = 35 then ⟨0, [], [], [], 0, 0⟩ else
    if c = 91 then (if m.getLast? = some 93 ∧ secB m.dropLast = true then ⟨1, m.dropLast, [], [], 0, 0⟩ else noR) else keyRr s (c :: m)
def toR (r : Ro) : Rr := ⟨if r.kind = 0 then 3 else r.kind - 1, if r.kind = 2 then r.name else [], if r.kind = 3 then r.name else [], r.val, r.pos, r.pos + r.val.length⟩
theorem bl_61 {c : UInt8} (h : bl c = true) : c ≠ 61 := by
  have : c = 32 ∨ c = 9 := by simpa [bl] using h
  rcases this with rfl | rfl <;> decide
theorem mid_front {f : Bs} (a : Bs) (h : ∀ c ∈ f, bl c = true) : mid (f ++ a) = mid a := by rw [mid_eq, mid_eq, dw_app _ h]
theorem mid_back (a : Bs) {b : Bs} (h : ∀ c ∈ b, bl c = true) : mid (a ++ b) = mid a := by
  rw [mid_eq, mid_eq, List.dropWhile_append]
  cases ha : a.dropWhile bl with
  | nil => rw [List.isEmpty_nil, if_pos rfl, dw_all h]
  | cons c r => rw [List.isEmpty_cons, if_neg (by decide), rt_app _ h]
theorem mid_all {a : Bs} (h : mid a = []) : ∀ c ∈ a, bl c = true := by
  obtain ⟨b, e, hb⟩ := parts a
  rw [h, List.append_nil] at e
  rw [e]
  intro c hc
  rcases List.mem_append.1 hc with hc | hc
  · exact front_bl a c hc
  · exact hb c hc
theorem front_back (a : Bs) {b : Bs} (h : mid a ≠ []) : front (a ++ b) = front a := by
  rw [front_eq, front_eq, List.takeWhile_append, if_neg]
  intro hl
  apply h
  have : a.takeWhile bl = a := (List.takeWhile_prefix (p := bl) (l := a)).eq_of_length hl
  have h2 : ∀ c ∈ a, bl c = true := by rw [← this]; exact takeWhile_all a
  rw [mid_eq, dw_all h2]
  rfl
/-- A key's line: told of its middle, or of the whole. -/
theorem key_mid {s c m} (h : mid s = c :: m) : keyRr s (c :: m) = toR (keyR (s, [])) := by
  obtain ⟨b, e, hb⟩ := parts s
  have hf := front_bl s
  rw [h] at e
  have htr := mid_trm s
  rw [h] at htr
  generalize hM : c :: m = M at *
  generalize hF : front s = F at *
  unfold keyRr keyR
  dsimp only
  by_cases h61 : (61 : UInt8) ∈ M
  · have hs := split_mem h61
    have e2 : s = (F ++ ahead M) ++ 61 :: (behind M ++ b) := by
      rw [e]
      conv => lhs; rw [hs]
      simp
    have hn : (61 : UInt8) ∉ F ++ ahead M := by
      intro hm
      rcases List.mem_append.1 hm with hm | hm
      · exact bl_61 (hf _ hm) rfl
      · exact ahead_not M hm
    have ea : ahead s = F ++ ahead M := by rw [e2]; exact ahead_of hn
    have eb : behind s = behind M ++ b := by rw [e2]; exact behind_of hn
    have hc : s.contains 61 = true := by
      rw [e2]; simp
    rw [if_neg (by simpa using h61), hF, ea, eb, mid_front _ hf, mid_back _ hb, isB_eq, valB_eq]
    by_cases hk : kB (mid (ahead M)) = true ∧ vB (mid (behind M)) = true
    · rw [if_pos hk, if_pos ⟨hc, hk⟩, toR]
      have hp : (F ++ ahead M).length + 1 + (if mid (behind M) = [] then 0 else (front (behind M ++ b)).length) = F.length + (ahead M).length + 1 + (front (behind M)).length := by
        rw [List.length_append]
        by_cases hv : mid (behind M) = []
        · rw [if_pos hv]
          have hB : behind M = [] := by
            rcases List.eq_nil_or_concat (behind M) with hB | ⟨r, d, hB⟩
            · exact hB
            · rw [List.concat_eq_append] at hB
              have h1 := mid_all hv d (by rw [hB]; simp)
              have h2 := htr.2 d (ahead M ++ 61 :: r) (by
                conv => lhs; rw [hs, hB]
                simp)
              rw [h1] at h2
              cases h2
          rw [hB]
          rfl
        · rw [if_neg hv, front_back _ hv]
      dsimp only
      rw [hp]
      rfl
    · rw [if_neg hk, if_neg (fun hh => hk hh.2)]
      rfl
  · have hc : ¬ s.contains 61 = true := by
      rw [e]
      intro hm
      have hm : (61 : UInt8) ∈ F ++ M ++ b := by simpa using hm
      rcases List.mem_append.1 hm with hm | hm
      · rcases List.mem_append.1 hm with hm | hm
        · exact bl_61 (hf _ hm) rfl
        · exact h61 hm
      · exact bl_61 (hb _ hm) rfl
    rw [if_pos (by simpa using h61), if_neg (fun hh => hc hh.1)]
    rfl
/-- The reference reads a line as ini does. -/
theorem readR_eq (s e : Bs) : readR s = toR (rowI (s, e)) := by
  unfold readR rowI
  dsimp only
  by_cases h13 : s.contains 13 = true
  · rw [if_pos h13, if_pos h13]; rfl
  · rw [if_neg h13, if_neg h13]
    cases hm : mid s with
    | nil => rfl
    | cons c m =>
      dsimp only
      by_cases h1 : c = 59 ∨ c = 35
      · rw [if_pos h1, if_pos h1]; rfl
      · rw [if_neg h1, if_neg h1]
        by_cases h2 : c = 91
        · rw [if_pos h2, if_pos h2, secB_eq]
          unfold headR
          split <;> rfl
        · rw [if_neg h2, if_neg h2, key_mid hm]
          unfold keyR
          dsimp only
          split <;> rfl
end Go.Proofs.YtapgaglkkgbgkaaGreatDoor.In
namespace Go.Proofs.YtapgaglkkgbgkaaGreatDoor.In
open Go.RowKit Go.Proofs.YtapgaglkkgbgkaaGreatDoor.Li Go.Proofs.YtapgaglkkgbgkaaGreatDoor.Cv
set_option maxRecDepth 100000

/-- A box of a row. -/
def Rrx (w : World) (g : Nat) (a b c d e f : Value) : Prop := w.heap[g]? = some (.cells #[a, b, c, d, e, f] 81 (0, 0))
section
variable {w w' : World} {g : Nat} {a b c d e f : Value}
theorem Rrx.lt (h : Rrx w g a b c d e f) : g < w.heap.size := (Array.getElem?_eq_some_iff.1 h).1
theorem Rrx.at_ (h : Rrx w g a b c d e f) (j : Nat) : w.cell? ⟨g, j, none⟩ = #[a, b, c, d, e, f][j]? := by rw [cell_of_row _ _ _ _ _ _ h]
theorem Rrx.cells (h : Rrx w g a b c d e f) : w.cell? ⟨g, 0, none⟩ = some a ∧ w.cell? ⟨g, 1, none⟩ = some b ∧ w.cell? ⟨g, 2, none⟩ = some c ∧ w.cell? ⟨g, 3, none⟩ = some d ∧ w.cell? ⟨g, 4, none⟩ = some e ∧ w.cell? ⟨g, 5, none⟩ = some f := ⟨h.at_ 0, h.at_ 1, h.at_ 2, h.at_ 3, h.at_ 4, h.at_ 5⟩
theorem Rrx.free (h : Rrx w g a b c d e f) : w.frozen? ⟨g, 0, none⟩ = false ∧ w.frozen? ⟨g, 1, none⟩ = false ∧ w.frozen? ⟨g, 2, none⟩ = false ∧ w.frozen? ⟨g, 3, none⟩ = false ∧ w.frozen? ⟨g, 4, none⟩ = false ∧ w.frozen? ⟨g, 5, none⟩ = false := by
  have h' : w.heap[g]? = some (.cells #[a, b, c, d, e, f] 81 (0, 0)) := h
  exact ⟨by simp [World.frozen?, h'], by simp [World.frozen?, h'], by simp [World.frozen?, h'], by simp [World.frozen?, h'], by simp [World.frozen?, h'], by simp [World.frozen?, h']⟩
theorem Rrx.below (h : Rrx w g a b c d e f) (hb : Below w.heap.size w w') : Rrx w' g a b c d e f := (hb.block _ h.lt).trans h
theorem Rrx.set (h : Rrx w g a b c d e f) (x0 x1 x2 x3 x4 x5 : Value) : Rrx (set6 w g x0 x1 x2 x3 x4 x5) g x0 x1 x2 x3 x4 x5 := by
  unfold Rrx set6
  rw [heap_setCell_same _ g 5 _ _ _ (heap_setCell_same _ g 4 _ _ _ (heap_setCell_same _ g 3 _ _ _ (heap_setCell_same _ g 2 _ _ _ (heap_setCell_same _ g 1 _ _ _ (heap_setCell_same w g 0 _ _ _ h)))))]
  rfl
end

abbrev onez (w : World) : World := w.alloc (Obj.cells #[.int .i64 0, .string ⟨#[]⟩, .string ⟨#[]⟩, .string ⟨#[]⟩, .int .i64 0, .int .i64 0] 81)
theorem onez_ok (w : World) : Below w.heap.size w (onez w) ∧ ∀ W, Below (onez w).heap.size (onez w) W → Rrx W w.heap.size (.int .i64 0) (.string ⟨#[]⟩) (.string ⟨#[]⟩) (.string ⟨#[]⟩) (.int .i64 0) (.int .i64 0) := by
  have h : Rrx (onez w) w.heap.size (.int .i64 0) (.string ⟨#[]⟩) (.string ⟨#[]⟩) (.string ⟨#[]⟩) (.int .i64 0) (.int .i64 0) := heap_alloc_new w _
  exact ⟨(Below.refl _ _).alloc (Nat.le_refl _) _, fun W hW => h.below hW⟩
/-- The reference's row as a value. -/
def rrv (r : Rr) : Value := .agg #[.int .i64 r.kind, Li.encs r.sec, Li.encs r.key, Li.encs r.val, .int .i64 r.at0, .int .i64 r.at1]
def RrP (w : World) (r : Rr) (e : Ending) (w' : World) : Prop := e = .returned (rrv r) ∧ Below w.heap.size w w'

set_option maxHeartbeats 2000000 in
theorem rread_some (s : ByteArray) (w : World) (hs : s.size ≤ 4000) (hh : s.data.toList.contains 13 = true ∨ mid s.data.toList = [] ∨ ∃ c m, mid s.data.toList = c :: m ∧ (c = 59 ∨ c = 35)) : Calls Tryz.prog 51 #[.string s] w (RrP w (readR s.data.toList)) := by
  obtain ⟨R, hR⟩ : ∃ R, R = readR s.data.toList := ⟨_, rfl⟩
  rw [← hR]
  unfold readR at hR
  obtain ⟨W1, hW1⟩ : ∃ W, W = onez w := ⟨_, rfl⟩
  obtain ⟨hb1, hk1⟩ := onez_ok w
  rw [← hW1] at hb1 hk1
  have HB1 := Lib.hid hb1
  have HK1 := Lib.hid hk1
  clear hb1 hk1
  unfold onez at hW1
  have HCr := Lib.hid (fun W => cr_any s W (by omega))
  obtain ⟨u, hu⟩ : ∃ u, u = s.data.toList.contains 13 := ⟨_, rfl⟩
  rw [← hu] at HCr hR hh
  obtain ⟨f1, hf1⟩ : ∃ x, x = fr s := ⟨_, rfl⟩
  obtain ⟨x, hx⟩ : ∃ x, x = mi s := ⟨_, rfl⟩
  obtain ⟨y1, hy1⟩ : ∃ x, x = ba s := ⟨_, rfl⟩
  have HT : Hid (∀ W, Calls Tryz.prog 72 #[.string s] W fun e w' => e = .returned (.tuple #[.string f1, .string x, .string y1]) ∧ Below W.heap.size W w') := by
    rw [hf1, hx, hy1]; exact Lib.hid (fun W => rtrim_any s W (by omega))
  have hxl : x.data.toList = mid s.data.toList := by rw [hx, mi_mid]
  rw [← hxl] at hR hh
  have he := empty_eq x
  clear hxl hf1 hx hy1 hu hs
  cases u with
  | true =>
    have HR : Hid (R = noR) := Lib.hid hR
    clear hR hh he
    go_enter Tryz.func51, Tryz.ntmps51
    go_upto_region 1 with (fail)
    rw [← hW1]
    clear hW1
    go_wp2_with fail
    (with_reducible refine (HT.out _).mono ?_)
    rintro e w1 ⟨rfl, hb1⟩
    have HBx := Lib.hid (HB1.out.trans (hb1.mono HB1.out.size))
    have hz := HK1.out w1 hb1
    obtain ⟨c0, c1, c2, c3, c4, c5⟩ := hz.cells
    obtain ⟨z0, z1, z2, z3, z4, z5⟩ := hz.free
    have HZ := Lib.hid hz
    clear hz hb1
    go_wp2_with fail
    (with_reducible refine (HCr.out _).mono ?_)
    rintro e w2 ⟨rfl, rfl⟩
    go_wp2_with fail
    obtain ⟨d0, d1, d2, d3, d4, d5⟩ := (HZ.out.set (.int .i64 3) (.string ⟨#[]⟩) (.string ⟨#[]⟩) (.string ⟨#[]⟩) (.int .i64 0) (.int .i64 0)).cells
    refine bodyPost_ret (v := .agg #[.int .i64 3, .string ⟨#[]⟩, .string ⟨#[]⟩, .string ⟨#[]⟩, .int .i64 0, .int .i64 0]) (by simp [results, Tryz.results51, go_sem, d0, d1, d2, d3, d4, d5]) rfl ?_
    exact ⟨by rw [HR.out]; rfl, below6 HBx.out (Nat.le_refl _) _ _ _ _ _ _⟩
  | false =>
    rw [if_neg (by simp)] at hR
    cases hd : x.data.toList with
    | nil =>
      rw [hd] at hR he
      have HR : Hid (R = ⟨0, [], [], [], 0, 0⟩) := Lib.hid hR
      have he2 : (x.toList == ([] : List UInt8)) = true := he
      clear hR hh he hd
      go_enter Tryz.func51, Tryz.ntmps51
      go_upto_region 1 with (fail)
      rw [← hW1]
      clear hW1
      go_wp2_with fail
      (with_reducible refine (HT.out _).mono ?_)
      rintro e w1 ⟨rfl, hb1⟩
      have HBx := Lib.hid (HB1.out.trans (hb1.mono HB1.out.size))
      have hz := HK1.out w1 hb1
      obtain ⟨c0, c1, c2, c3, c4, c5⟩ := hz.cells
      obtain ⟨z0, z1, z2, z3, z4, z5⟩ := hz.free
      have HZ := Lib.hid hz
      clear hz hb1
      go_wp2_with fail
      (with_reducible refine (HCr.out _).mono ?_)
      rintro e w2 ⟨rfl, rfl⟩
      go_wp2_with fail
      obtain ⟨d0, d1, d2, d3, d4, d5⟩ := (HZ.out.set (.int .i64 0) (.string ⟨#[]⟩) (.string ⟨#[]⟩) (.string ⟨#[]⟩) (.int .i64 0) (.int .i64 0)).cells
      refine bodyPost_ret (v := .agg #[.int .i64 0, .string ⟨#[]⟩, .string ⟨#[]⟩, .string ⟨#[]⟩, .int .i64 0, .int .i64 0]) (by simp [results, Tryz.results51, go_sem, d0, d1, d2, d3, d4, d5]) rfl ?_
      exact ⟨by rw [HR.out]; rfl, below6 HBx.out (Nat.le_refl _) _ _ _ _ _ _⟩
    | cons c m =>
      rw [hd] at hR hh he
      have he2 : (x.toList == ([] : List UInt8)) = false := he
      have hn : x.size = (c :: m).length := by rw [← hd]; rfl
      have h0 : 0 < x.size := by rw [hn]; exact Nat.succ_pos _
      have h0I : (0 : Int) < (x.size : Int) := by omega
      have hc : x[0] = c := by
        have h1 := drop_at h0
        rw [List.drop_zero, hd] at h1
        exact (List.cons.inj h1).1.symm
      have hc2 : c = 59 ∨ c = 35 := by
        rcases hh with h | h | ⟨c', m', h, h2⟩
        · cases h
        · cases h
        · obtain ⟨rfl, rfl⟩ := List.cons.inj h; exact h2
      have HR : Hid (R = ⟨0, [], [], [], 0, 0⟩) := Lib.hid (by rw [hR]; exact if_pos hc2)
      clear hR hh he hd hn
      rcases hc2 with rfl | rfl
      · have q0 : ((x[0].toNat : Int) == 59) = true := by rw [hc]; rfl
        clear hc
        go_enter Tryz.func51, Tryz.ntmps51
        go_upto_region 1 with (fail)
        rw [← hW1]
        clear hW1
        go_wp2_with fail
        (with_reducible refine (HT.out _).mono ?_)
        rintro e w1 ⟨rfl, hb1⟩
        have HBx := Lib.hid (HB1.out.trans (hb1.mono HB1.out.size))
        have hz := HK1.out w1 hb1
        obtain ⟨c0, c1, c2, c3, c4, c5⟩ := hz.cells
        obtain ⟨z0, z1, z2, z3, z4, z5⟩ := hz.free
        have HZ := Lib.hid hz
        clear hz hb1
        go_wp2_with fail
        (with_reducible refine (HCr.out _).mono ?_)
        rintro e w2 ⟨rfl, rfl⟩
        go_wp2_with fail
        obtain ⟨d0, d1, d2, d3, d4, d5⟩ := (HZ.out.set (.int .i64 0) (.string ⟨#[]⟩) (.string ⟨#[]⟩) (.string ⟨#[]⟩) (.int .i64 0) (.int .i64 0)).cells
        refine bodyPost_ret (v := .agg #[.int .i64 0, .string ⟨#[]⟩, .string ⟨#[]⟩, .string ⟨#[]⟩, .int .i64 0, .int .i64 0]) (by simp [results, Tryz.results51, go_sem, d0, d1, d2, d3, d4, d5]) rfl ?_
        exact ⟨by rw [HR.out]; rfl, below6 HBx.out (Nat.le_refl _) _ _ _ _ _ _⟩
      · have q0 : ((x[0].toNat : Int) == 59) = false := by rw [hc]; rfl
        have q1 : ((x[0].toNat : Int) == 35) = true := by rw [hc]; rfl
        clear hc
        go_enter Tryz.func51, Tryz.ntmps51
        go_upto_region 1 with (fail)
        rw [← hW1]
        clear hW1
        go_wp2_with fail
        (with_reducible refine (HT.out _).mono ?_)
        rintro e w1 ⟨rfl, hb1⟩
        have HBx := Lib.hid (HB1.out.trans (hb1.mono HB1.out.size))
        have hz := HK1.out w1 hb1
        obtain ⟨c0, c1, c2, c3, c4, c5⟩ := hz.cells
        obtain ⟨z0, z1, z2, z3, z4, z5⟩ := hz.free
        have HZ := Lib.hid hz
        clear hz hb1
        go_wp2_with fail
        (with_reducible refine (HCr.out _).mono ?_)
        rintro e w2 ⟨rfl, rfl⟩
        go_wp2_with fail
        obtain ⟨d0, d1, d2, d3, d4, d5⟩ := (HZ.out.set (.int .i64 0) (.string ⟨#[]⟩) (.string ⟨#[]⟩) (.string ⟨#[]⟩) (.int .i64 0) (.int .i64 0)).cells
        refine bodyPost_ret (v := .agg #[.int .i64 0, .string ⟨#[]⟩, .string ⟨#[]⟩, .string ⟨#[]⟩, .int .i64 0, .int .i64 0]) (by simp [results, Tryz.results51, go_sem, d0, d1, d2, d3, d4, d5]) rfl ?_
        exact ⟨by rw [HR.out]; rfl, below6 HBx.out (Nat.le_refl _) _ _ _ _ _ _⟩
set_option maxHeartbeats 2000000 in
theorem rread_head (s : ByteArray) (w : World) (hs : s.size ≤ 4000) (m : Bs) (hcr : s.data.toList.contains 13 = false) (hmd : mid s.data.toList = 91 :: m) : Calls Tryz.prog 51 #[.string s] w (RrP w (readR s.data.toList)) := by
  obtain ⟨R, hR⟩ : ∃ R, R = readR s.data.toList := ⟨_, rfl⟩
  rw [← hR]
  unfold readR at hR
  obtain ⟨W1, hW1⟩ : ∃ W, W = onez w := ⟨_, rfl⟩
  obtain ⟨hb1, hk1⟩ := onez_ok w
  rw [← hW1] at hb1 hk1
  have HB1 := Lib.hid hb1
  have HK1 := Lib.hid hk1
  clear hb1 hk1
  unfold onez at hW1
  have HCr := Lib.hid (fun W => cr_any s W (by omega))
  rw [hcr] at HCr
  obtain ⟨f1, hf1⟩ : ∃ x, x = fr s := ⟨_, rfl⟩
  obtain ⟨x, hx⟩ : ∃ x, x = mi s := ⟨_, rfl⟩
  obtain ⟨y1, hy1⟩ : ∃ x, x = ba s := ⟨_, rfl⟩
  have HT : Hid (∀ W, Calls Tryz.prog 72 #[.string s] W fun e w' => e = .returned (.tuple #[.string f1, .string x, .string y1]) ∧ Below W.heap.size W w') := by
    rw [hf1, hx, hy1]; exact Lib.hid (fun W => rtrim_any s W (by omega))
  have hd : x.data.toList = 91 :: m := by rw [hx, mi_mid, hmd]
  have hxs : x.size ≤ 4000 := Nat.le_trans (by rw [hx]; exact (by rw [mi_size]; have := en_le s.data.toList; have h : s.data.toList.length = s.size := rfl; omega)) hs
  rw [hcr, hmd] at hR
  rw [if_neg (by simp)] at hR
  replace hR : R = if m.getLast? = some 93 ∧ secB m.dropLast = true then ⟨1, m.dropLast, [], [], 0, 0⟩ else noR := hR
  have he2 : (x.toList == ([] : List UInt8)) = false := by rw [empty_eq, hd]; rfl
  have hn : x.size = m.length + 1 := by have h : x.size = x.data.toList.length := rfl; rw [h, hd]; rfl
  have h0 : 0 < x.size := by omega
  have h0I : (0 : Int) < (x.size : Int) := by omega
  have hc : x[0] = 91 := by
    have h1 := drop_at h0
    rw [List.drop_zero, hd] at h1
    exact (List.cons.inj h1).1.symm
  have q0 : ((x[0].toNat : Int) == 59) = false := by rw [hc]; rfl
  have q1 : ((x[0].toNat : Int) == 35) = false := by rw [hc]; rfl
  have q2 : ((x[0].toNat : Int) == 91) = true := by rw [hc]; rfl
  clear hf1 hx hy1 hs hmd hcr hc
  by_cases hm : m = []
  · subst hm
    have HR : Hid (R = noR) := Lib.hid (by rw [hR]; rfl)
    have hlt : (x.size : Int) < 2 := by rw [hn]; decide
    clear hR hd hn hxs
    go_enter Tryz.func51, Tryz.ntmps51
    go_upto_region 1 with (fail)
    rw [← hW1]
    clear hW1
    go_wp2_with fail
    (with_reducible refine (HT.out _).mono ?_)
    rintro e w1 ⟨rfl, hb1⟩
    have HBx := Lib.hid (HB1.out.trans (hb1.mono HB1.out.size))
    have hz := HK1.out w1 hb1
    obtain ⟨c0, c1, c2, c3, c4, c5⟩ := hz.cells
    obtain ⟨z0, z1, z2, z3, z4, z5⟩ := hz.free
    have HZ := Lib.hid hz
    clear hz hb1
    go_wp2_with fail
    (with_reducible refine (HCr.out _).mono ?_)
    rintro e w2 ⟨rfl, rfl⟩
    go_wp2_with fail
    obtain ⟨d0, d1, d2, d3, d4, d5⟩ := (HZ.out.set (.int .i64 3) (.string ⟨#[]⟩) (.string ⟨#[]⟩) (.string ⟨#[]⟩) (.int .i64 0) (.int .i64 0)).cells
    refine bodyPost_ret (v := .agg #[.int .i64 3, .string ⟨#[]⟩, .string ⟨#[]⟩, .string ⟨#[]⟩, .int .i64 0, .int .i64 0]) (by simp [results, Tryz.results51, go_sem, d0, d1, d2, d3, d4, d5]) rfl ?_
    exact ⟨by rw [HR.out]; rfl, below6 HBx.out (Nat.le_refl _) _ _ _ _ _ _⟩
  · obtain ⟨p, hp⟩ : ∃ p, m.length = p := ⟨_, rfl⟩
    have hm0 : 0 < m.length := List.length_pos_iff.2 hm
    have hlt : ¬ (x.size : Int) < 2 := by omega
    have hpI : (x.size : Int) - 1 = (p : Int) := by omega
    have hp0 : (0 : Int) ≤ (p : Int) := by omega
    have hp1 : (1 : Int) ≤ (p : Int) := by omega
    have hpl : (p : Int) < (x.size : Int) := by omega
    have hpn : p < x.size := by omega
    have hp4 : p ≤ 4000 := by omega
    have hlast : m.getLast? = some x[p] := by
      have h1 : x.data.toList[p]? = some x[p] := by
        have := List.getElem?_drop (xs := x.data.toList) (i := p) (j := 0)
        rw [drop_at hpn] at this
        exact this.symm.trans rfl
      rw [hd] at h1
      rw [List.getLast?_eq_getElem?]
      obtain ⟨q, rfl⟩ : ∃ q, p = q + 1 := ⟨p - 1, by omega⟩
      rw [List.getElem?_cons_succ] at h1
      rw [hp]; exact h1
    have hext : (x.extract 1 p).data.toList = m.dropLast := by
      rw [Lib.extract_eq]
      rw [hd, List.dropLast_eq_take, hp]
      simp
    rw [hlast, ← hext] at hR
    by_cases h93 : x[p] = 93
    · have q7 : ((x[p].toNat : Int) == 93) = true := by rw [h93]; rfl
      have e7 : (x[p].toNat : Int) = 93 := by rw [h93]; rfl
      obtain ⟨y, hy⟩ : ∃ y, y = x.extract 1 p := ⟨_, rfl⟩
      have HS' := Lib.hid (fun W => rsection_any (x.extract 1 p) W (by rw [show (x.extract 1 p).size = (x.extract 1 p).data.toList.length from rfl, hext, List.length_dropLast]; omega))
      rw [h93] at hR
      rw [secB_eq] at hR
      obtain ⟨v, hv⟩ : ∃ v, v = sB (x.extract 1 p).data.toList := ⟨_, rfl⟩
      rw [← hv] at HS' hR
      clear hv h93 hlast hm hm0 hp hn hd
      cases v with
      | false =>
        rw [if_neg (by simp)] at hR
        have HR := Lib.hid hR
        clear hR hext
        go_enter Tryz.func51, Tryz.ntmps51
        go_upto_region 1 with (fail)
        rw [← hW1]
        clear hW1
        go_wp2_with fail
        (with_reducible refine (HT.out _).mono ?_)
        rintro e w1 ⟨rfl, hb1⟩
        have HBx := Lib.hid (HB1.out.trans (hb1.mono HB1.out.size))
        have hz := HK1.out w1 hb1
        obtain ⟨c0, c1, c2, c3, c4, c5⟩ := hz.cells
        obtain ⟨z0, z1, z2, z3, z4, z5⟩ := hz.free
        have HZ := Lib.hid hz
        clear hz hb1
        go_wp2_with fail
        (with_reducible refine (HCr.out _).mono ?_)
        rintro e w2 ⟨rfl, rfl⟩
        go_wp2_with fail
        (with_reducible refine (HS'.out _).mono ?_)
        rintro e w3 ⟨rfl, hb3⟩
        have HBy := Lib.hid (HBx.out.trans (hb3.mono HBx.out.size))
        have hz := HZ.out.below hb3
        obtain ⟨c0, c1, c2, c3, c4, c5⟩ := hz.cells
        obtain ⟨z0, z1, z2, z3, z4, z5⟩ := hz.free
        have HZ2 := Lib.hid hz
        clear hz hb3
        go_wp2_with fail
        obtain ⟨d0, d1, d2, d3, d4, d5⟩ := (HZ2.out.set (.int .i64 3) (.string ⟨#[]⟩) (.string ⟨#[]⟩) (.string ⟨#[]⟩) (.int .i64 0) (.int .i64 0)).cells
        refine bodyPost_ret (v := .agg #[.int .i64 3, .string ⟨#[]⟩, .string ⟨#[]⟩, .string ⟨#[]⟩, .int .i64 0, .int .i64 0]) (by simp [results, Tryz.results51, go_sem, d0, d1, d2, d3, d4, d5]) rfl ?_
        exact ⟨by rw [HR.out]; rfl, below6 HBy.out (Nat.le_refl _) _ _ _ _ _ _⟩
      | true =>
        rw [if_pos ⟨rfl, rfl⟩] at hR
        have HR := Lib.hid hR
        clear hR hext
        go_enter Tryz.func51, Tryz.ntmps51
        go_upto_region 1 with (fail)
        rw [← hW1]
        clear hW1
        go_wp2_with fail
        (with_reducible refine (HT.out _).mono ?_)
        rintro e w1 ⟨rfl, hb1⟩
        have HBx := Lib.hid (HB1.out.trans (hb1.mono HB1.out.size))
        have hz := HK1.out w1 hb1
        obtain ⟨c0, c1, c2, c3, c4, c5⟩ := hz.cells
        obtain ⟨z0, z1, z2, z3, z4, z5⟩ := hz.free
        have HZ := Lib.hid hz
        clear hz hb1
        go_wp2_with fail
        (with_reducible refine (HCr.out _).mono ?_)
        rintro e w2 ⟨rfl, rfl⟩
        go_wp2_with fail
        (with_reducible refine (HS'.out _).mono ?_)
        rintro e w3 ⟨rfl, hb3⟩
        have HBy := Lib.hid (HBx.out.trans (hb3.mono HBx.out.size))
        have hz := HZ.out.below hb3
        obtain ⟨c0, c1, c2, c3, c4, c5⟩ := hz.cells
        obtain ⟨z0, z1, z2, z3, z4, z5⟩ := hz.free
        have HZ2 := Lib.hid hz
        clear hz hb3
        go_wp2_with fail
        obtain ⟨d0, d1, d2, d3, d4, d5⟩ := (HZ2.out.set (.int .i64 1) (.string (x.extract 1 p)) (.string ⟨#[]⟩) (.string ⟨#[]⟩) (.int .i64 0) (.int .i64 0)).cells
        refine bodyPost_ret (v := .agg #[.int .i64 1, .string (x.extract 1 p), .string ⟨#[]⟩, .string ⟨#[]⟩, .int .i64 0, .int .i64 0]) (by simp [results, Tryz.results51, go_sem, d0, d1, d2, d3, d4, d5]) rfl ?_
        exact ⟨by rw [HR.out]; rfl, below6 HBy.out (Nat.le_refl _) _ _ _ _ _ _⟩
    · have q7 : ((x[p].toNat : Int) == 93) = false := by
        have := ne_toNat (n := 93) (by decide) h93
        simp; omega
      have e7 : ¬ (x[p].toNat : Int) = 93 := by have := ne_toNat (n := 93) (by decide) h93; omega
      rw [if_neg (fun h => h93 (Option.some.inj h.1))] at hR
      have HR := Lib.hid hR
      clear hR hext hlast h93 hm hm0 hp hn hd
      go_enter Tryz.func51, Tryz.ntmps51
      go_upto_region 1 with (fail)
      rw [← hW1]
      clear hW1
      go_wp2_with fail
      (with_reducible refine (HT.out _).mono ?_)
      rintro e w1 ⟨rfl, hb1⟩
      have HBx := Lib.hid (HB1.out.trans (hb1.mono HB1.out.size))
      have hz := HK1.out w1 hb1
      obtain ⟨c0, c1, c2, c3, c4, c5⟩ := hz.cells
      obtain ⟨z0, z1, z2, z3, z4, z5⟩ := hz.free
      have HZ := Lib.hid hz
      clear hz hb1
      go_wp2_with fail
      (with_reducible refine (HCr.out _).mono ?_)
      rintro e w2 ⟨rfl, rfl⟩
      go_wp2_with fail
      obtain ⟨d0, d1, d2, d3, d4, d5⟩ := (HZ.out.set (.int .i64 3) (.string ⟨#[]⟩) (.string ⟨#[]⟩) (.string ⟨#[]⟩) (.int .i64 0) (.int .i64 0)).cells
      refine bodyPost_ret (v := .agg #[.int .i64 3, .string ⟨#[]⟩, .string ⟨#[]⟩, .string ⟨#[]⟩, .int .i64 0, .int .i64 0]) (by simp [results, Tryz.results51, go_sem, d0, d1, d2, d3, d4, d5]) rfl ?_
      exact ⟨by rw [HR.out]; rfl, below6 HBx.out (Nat.le_refl _) _ _ _ _ _ _⟩
end Go.Proofs.YtapgaglkkgbgkaaGreatDoor.In
