/- csv's fields: how wide the first one is; what is written, and what it means. Conditions: texts of fewer than 2^32 bytes; MaxLen's cell. -/
import Derived.Test.YtlcbhooiinaalaaGreatDoorCvWord
import Derived.Outline
import Derived.WalkMore
import Derived.ScopeJumps
namespace Go.Proofs.YtlcbhooiinaalaaGreatDoor.Cv
open Go.RowKit Go.Proofs.YtlcbhooiinaalaaGreatDoor.Jd
set_option maxRecDepth 100000

/-- How many bytes the first field has; q: within quotes. -/
def wid : Bool → List UInt8 → Nat
  | _, [] => 0
  | q, c :: r => if c = 34 then wid (!q) r + 1 else if c = 44 ∧ q = false then 0 else wid q r + 1
theorem wid_le : ∀ (l : List UInt8) (q : Bool), wid q l ≤ l.length
  | [], _ => Nat.le_refl _
  | c :: r, q => by
    rw [wid, List.length_cons]
    have h1 := wid_le r (!q)
    have h2 := wid_le r q
    split
    · omega
    · split <;> omega
theorem drop_at {s : ByteArray} {k : Nat} (h : k < s.size) : s.data.toList.drop k = s[k] :: s.data.toList.drop (k + 1) := by
  rw [List.drop_eq_getElem_cons (show k < s.data.toList.length from h)]
  rfl

set_option maxHeartbeats 2000000 in
theorem width_any (s : ByteArray) (w : World) (hz : s.size ≤ 140737488351232) : Calls Tryz.prog 116 #[.string s] w fun e w' => e = .returned (.int .i64 (wid false s.data.toList : Nat)) ∧ w = w' := by
  go_enter Tryz.func116, Tryz.ntmps116
  go_wp2
  go_step3
  go_wp2
  go_step3
  go_wp2
  go_loopw [3, 4] (fun a i wr => ∃ (k : Nat) (q : Bool), k ≤ s.size ∧ a = .int .i64 k ∧ i = .bool q ∧ Hid (k + wid q (s.data.toList.drop k) = wid false s.data.toList) ∧ Hid (wr = w)) (fun a _ _ => s.size - (intOf a).toNat)
  case atStart => exact ⟨0, false, Nat.zero_le _, rfl, rfl, Lib.hid (by simp), Lib.hid rfl⟩
  case round =>
    obtain ⟨k, q, hk, rfl, rfl, HR, HW⟩ := hrel
    by_cases hlt : k < s.size
    · have hkn : (k : Int) < (s.size : Int) := by omega
      have hk0 : (0 : Int) ≤ (k : Int) := by omega
      have hrel := HR.out
      have hd := drop_at hlt
      have hx0 : ∃ x, x = s[k] := ⟨_, rfl⟩
      obtain ⟨x, hx⟩ := hx0
      rw [← hx] at hd
      rw [hd, wid] at hrel
      by_cases h34 : x = 34
      · have q1 : ((s[k].toNat : Int) == 34) = true := by rw [← hx, h34]; rfl
        rw [if_pos h34] at hrel
        have HR2 := Lib.hid hrel
        have Hlt := Lib.hid hlt
        clear h34 hrel HR hd hx
        go_wp2_with fail
        go_roundw
        case rel => exact ⟨k + 1, !q, Hlt.out, by go_num, rfl, Lib.hid (by have := HR2.out; omega), HW⟩
        case measure => have := Hlt.out; simp [intOf]; omega
      · have n34 : s[k].toNat ≠ 34 := fun e => h34 (UInt8.toNat_inj.1 (by rw [hx]; exact e))
        have q1 : ((s[k].toNat : Int) == 34) = false := by simp; omega
        rw [if_neg h34] at hrel
        by_cases h44 : x = 44
        · have q2 : ((s[k].toNat : Int) == 44) = true := by rw [← hx, h44]; rfl
          cases q with
          | false =>
            rw [if_pos ⟨h44, rfl⟩] at hrel
            have HR2 := Lib.hid hrel
            have Hlt := Lib.hid hlt
            clear h34 h44 n34 hrel HR hd hx
            go_wp2_with fail
            first
              | go_ret
              | (rw [Exit.noGoto_ret]; go_ret)
            exact ⟨by rw [← HR2.out]; rfl, HW.out.symm⟩
          | true =>
            rw [if_neg (by simp)] at hrel
            have HR2 := Lib.hid hrel
            have Hlt := Lib.hid hlt
            clear h34 h44 n34 hrel HR hd hx
            go_wp2_with fail
            go_roundw
            case rel => exact ⟨k + 1, true, Hlt.out, by go_num, rfl, Lib.hid (by have := HR2.out; omega), HW⟩
            case measure => have := Hlt.out; simp [intOf]; omega
        · have n44 : s[k].toNat ≠ 44 := fun e => h44 (UInt8.toNat_inj.1 (by rw [hx]; exact e))
          have q2 : ((s[k].toNat : Int) == 44) = false := by simp; omega
          rw [if_neg (fun h => h44 h.1)] at hrel
          have HR2 := Lib.hid hrel
          have Hlt := Lib.hid hlt
          clear h34 h44 n34 n44 hrel HR hd hx
          go_wp2_with fail
          go_roundw
          case rel => exact ⟨k + 1, q, Hlt.out, by go_num, rfl, Lib.hid (by have := HR2.out; omega), HW⟩
          case measure => have := Hlt.out; simp [intOf]; omega
    · obtain rfl : k = s.size := by omega
      have hrel := HR.out
      rw [List.drop_of_length_le (show s.data.toList.length ≤ s.size from Nat.le_refl _), wid, Nat.add_zero] at hrel
      have HR2 := Lib.hid hrel
      clear hlt hrel HR
      go_wp2_with fail
      first
        | go_ret
        | (rw [Exit.noGoto_ret]; go_ret)
      exact ⟨by rw [← HR2.out]; rfl, HW.out.symm⟩

/-- What a field means; false, if none is written so. -/
def unq (l : List UInt8) : List UInt8 × Bool :=
  if Lib.hasPrefix l [34] = false then (l, !(decide (0 ≤ Lib.indexByte l 34))) else
  if Lib.hasSuffix (Lib.trimPrefix l [34]) [34] = false then ([], false) else
  if decide (0 ≤ Lib.indexByte (Lib.replaceAll (Lib.trimSuffix (Lib.trimPrefix l [34]) [34]) [34, 34] []) 34) = true then ([], false) else
  (Lib.replaceAll (Lib.trimSuffix (Lib.trimPrefix l [34]) [34]) [34, 34] [34], true)
/-- MaxLen's cell. -/
def Gl (w : World) : Prop := ∃ m, w.cell? ⟨0, 0, none⟩ = some (.int .i64 m)
theorem Gl.below {w w' : World} (h : Gl w) (hb : Below w.heap.size w w') : Gl w' := by
  obtain ⟨m, hm⟩ := h
  exact ⟨m, (hb.cell (p := ⟨0, 0, none⟩) (World.block_lt_of_cell? w ⟨0, 0, none⟩ hm)).trans hm⟩
theorem trimP_size (s : ByteArray) : (⟨(Lib.trimPrefix s.data.toList [34]).toArray⟩ : ByteArray).size ≤ s.size := by
  have h : (⟨(Lib.trimPrefix s.data.toList [34]).toArray⟩ : ByteArray).size = (Lib.trimPrefix s.data.toList [34]).length := by simp [ByteArray.size]
  rw [h]
  have hs : s.size = s.data.toList.length := rfl
  unfold Lib.trimPrefix
  split
  · rw [List.length_drop]; omega
  · omega
theorem trimS_size (l : List UInt8) : (⟨(Lib.trimSuffix l [34]).toArray⟩ : ByteArray).size ≤ l.length := by
  have h : (⟨(Lib.trimSuffix l [34]).toArray⟩ : ByteArray).size = (Lib.trimSuffix l [34]).length := by simp [ByteArray.size]
  rw [h]
  unfold Lib.trimSuffix
  split
  · rw [List.length_take]; omega
  · omega

set_option maxHeartbeats 2000000 in
theorem unquoted_any (s : ByteArray) (w : World) (hz : s.size ≤ 4000) (hG : Gl w) : Calls Tryz.prog 117 #[.string s] w fun e w' => e = .returned (.tuple #[.string ⟨(unq s.data.toList).1.toArray⟩, .bool (unq s.data.toList).2]) ∧ Below w.heap.size w w' := by
  have hP := Tryz.strings_CutPrefix s ⟨#[34]⟩ w
  rw [show (ByteArray.mk #[34]).data.toList = [34] from rfl] at hP
  obtain ⟨p, hp⟩ : ∃ p, p = Lib.hasPrefix s.data.toList [34] := ⟨_, rfl⟩
  obtain ⟨i1, hi1⟩ : ∃ x : ByteArray, x = ⟨(Lib.trimPrefix s.data.toList [34]).toArray⟩ := ⟨_, rfl⟩
  rw [← hp, ← hi1] at hP
  have hz1 : i1.size ≤ s.size := by rw [hi1]; exact trimP_size s
  have hd1 : i1.data.toList = Lib.trimPrefix s.data.toList [34] := by rw [hi1]
  have HP := Lib.hid hP
  cases p with
  | false =>
    have HC := Lib.hid (Tryz.strings_Contains_one s 34 w)
    have HU : Hid (unq s.data.toList = (s.data.toList, !(decide (0 ≤ Lib.indexByte s.data.toList 34)))) := Lib.hid (by unfold unq; rw [if_pos hp.symm])
    obtain ⟨v, hv⟩ : ∃ v, v = decide (0 ≤ Lib.indexByte s.data.toList 34) := ⟨_, rfl⟩
    rw [← hv] at HC HU
    clear hP hp hi1 hz1 hd1 hv hG hz
    go_enter Tryz.func117, Tryz.ntmps117
    go_wp2_with fail
    (with_reducible refine HP.out.mono ?_)
    rintro e _ ⟨rfl, rfl⟩
    go_wp2_with fail
    (with_reducible refine HC.out.mono ?_)
    rintro e _ ⟨rfl, rfl⟩
    go_wp2_with fail
    go_ret2
    exact ⟨by rw [HU.out]; rfl, Below.refl _ _⟩
  | true =>
    have hS := Tryz.strings_CutSuffix i1 ⟨#[34]⟩ w (by omega)
    rw [show (ByteArray.mk #[34]).data.toList = [34] from rfl, hd1] at hS
    obtain ⟨q, hq⟩ : ∃ q, q = Lib.hasSuffix (Lib.trimPrefix s.data.toList [34]) [34] := ⟨_, rfl⟩
    obtain ⟨i2, hi2⟩ : ∃ x : ByteArray, x = ⟨(Lib.trimSuffix (Lib.trimPrefix s.data.toList [34]) [34]).toArray⟩ := ⟨_, rfl⟩
    rw [← hq, ← hi2] at hS
    have hz2 : i2.size ≤ i1.size := by
      have : i1.size = i1.data.toList.length := rfl
      rw [hi2, this, hd1]; exact trimS_size _
    have hd2 : i2.data.toList = Lib.trimSuffix (Lib.trimPrefix s.data.toList [34]) [34] := by rw [hi2]
    have HS := Lib.hid hS
    have hp' : ¬ Lib.hasPrefix s.data.toList [34] = false := by rw [← hp]; simp
    cases q with
    | false =>
      have HU : Hid (unq s.data.toList = ([], false)) := Lib.hid (by unfold unq; rw [if_neg hp', if_pos hq.symm])
      clear hP hp hi1 hz1 hd1 hS hq hi2 hz2 hd2 hp' hG hz
      go_enter Tryz.func117, Tryz.ntmps117
      go_wp2_with fail
      (with_reducible refine HP.out.mono ?_)
      rintro e _ ⟨rfl, rfl⟩
      go_wp2_with fail
      (with_reducible refine HS.out.mono ?_)
      rintro e _ ⟨rfl, rfl⟩
      go_wp2_with fail
      go_ret2
      exact ⟨by rw [HU.out]; rfl, Below.refl _ _⟩
    | true =>
      have hq' : ¬ Lib.hasSuffix (Lib.trimPrefix s.data.toList [34]) [34] = false := by rw [← hq]; simp
      have hR1 : ∀ (W : World), Gl W → Calls Tryz.prog 135 #[.string i2, .string ⟨#[34, 34]⟩, .string ⟨#[]⟩] W fun e w' => e = .returned (.string ⟨(Lib.replaceAll (Lib.trimSuffix (Lib.trimPrefix s.data.toList [34]) [34]) [34, 34] []).toArray⟩) ∧ Below W.heap.size W w' := fun W hW => by
        obtain ⟨m, hm⟩ := hW
        have h := Tryz.strings_ReplaceAll i2 ⟨#[34, 34]⟩ ⟨#[]⟩ m W (by omega) hm (by decide) (by have e : (ByteArray.mk #[]).size = 0 := rfl; rw [e]; omega)
        rw [show (ByteArray.mk #[34, 34]).data.toList = [34, 34] from rfl, show (ByteArray.mk #[]).data.toList = [] from rfl, hd2] at h
        exact h
      have hcb := Lib.countB_le ⟨#[34, 34]⟩ (by decide) i2.size i2 (Nat.le_refl _)
      have hR2 : ∀ (W : World), Gl W → Calls Tryz.prog 135 #[.string i2, .string ⟨#[34, 34]⟩, .string ⟨#[34]⟩] W fun e w' => e = .returned (.string ⟨(Lib.replaceAll (Lib.trimSuffix (Lib.trimPrefix s.data.toList [34]) [34]) [34, 34] [34]).toArray⟩) ∧ Below W.heap.size W w' := fun W hW => by
        obtain ⟨m, hm⟩ := hW
        have h := Tryz.strings_ReplaceAll i2 ⟨#[34, 34]⟩ ⟨#[34]⟩ m W (by omega) hm (by decide) (by have e : (ByteArray.mk #[34]).size = 1 := rfl; rw [e]; omega)
        rw [show (ByteArray.mk #[34, 34]).data.toList = [34, 34] from rfl, show (ByteArray.mk #[34]).data.toList = [34] from rfl, hd2] at h
        exact h
      obtain ⟨r1, hr1⟩ : ∃ x : ByteArray, x = ⟨(Lib.replaceAll (Lib.trimSuffix (Lib.trimPrefix s.data.toList [34]) [34]) [34, 34] []).toArray⟩ := ⟨_, rfl⟩
      have hC := fun (W : World) => Tryz.strings_Contains_one r1 34 W
      have hrd : r1.data.toList = Lib.replaceAll (Lib.trimSuffix (Lib.trimPrefix s.data.toList [34]) [34]) [34, 34] [] := by rw [hr1]
      rw [hrd] at hC
      rw [← hr1] at hR1
      obtain ⟨v, hv⟩ : ∃ v, v = decide (0 ≤ Lib.indexByte (Lib.replaceAll (Lib.trimSuffix (Lib.trimPrefix s.data.toList [34]) [34]) [34, 34] []) 34) := ⟨_, rfl⟩
      rw [← hv] at hC
      have HR1 := Lib.hid hR1
      have HR2 := Lib.hid hR2
      have HC := Lib.hid hC
      have HG := Lib.hid hG
      cases v with
      | true =>
        have HU : Hid (unq s.data.toList = ([], false)) := Lib.hid (by unfold unq; rw [if_neg hp', if_neg hq', if_pos hv.symm])
        clear hP hp hi1 hz1 hd1 hS hq hi2 hz2 hd2 hp' hq' hG hz hR1 hR2 hC hv hrd hr1 hcb
        go_enter Tryz.func117, Tryz.ntmps117
        go_wp2_with fail
        (with_reducible refine HP.out.mono ?_)
        rintro e _ ⟨rfl, rfl⟩
        go_wp2_with fail
        (with_reducible refine HS.out.mono ?_)
        rintro e _ ⟨rfl, rfl⟩
        go_wp2_with fail
        (with_reducible refine (HR1.out _ HG.out).mono ?_)
        rintro e w1 ⟨rfl, hb1⟩
        go_wp2_with fail
        (with_reducible refine (HC.out _).mono ?_)
        rintro e _ ⟨rfl, rfl⟩
        go_wp2_with fail
        go_ret2
        exact ⟨by rw [HU.out]; rfl, hb1⟩
      | false =>
        have HU : Hid (unq s.data.toList = (Lib.replaceAll (Lib.trimSuffix (Lib.trimPrefix s.data.toList [34]) [34]) [34, 34] [34], true)) := Lib.hid (by unfold unq; rw [if_neg hp', if_neg hq', if_neg (by rw [← hv]; simp)])
        clear hP hp hi1 hz1 hd1 hS hq hi2 hz2 hd2 hp' hq' hG hz hR1 hR2 hC hv hrd hr1 hcb
        go_enter Tryz.func117, Tryz.ntmps117
        go_wp2_with fail
        (with_reducible refine HP.out.mono ?_)
        rintro e _ ⟨rfl, rfl⟩
        go_wp2_with fail
        (with_reducible refine HS.out.mono ?_)
        rintro e _ ⟨rfl, rfl⟩
        go_wp2_with fail
        (with_reducible refine (HR1.out _ HG.out).mono ?_)
        rintro e w1 ⟨rfl, hb1⟩
        have hg1 := HG.out.below hb1
        go_wp2_with fail
        (with_reducible refine (HC.out _).mono ?_)
        rintro e _ ⟨rfl, rfl⟩
        go_wp2_with fail
        (with_reducible refine (HR2.out _ hg1).mono ?_)
        rintro e w2 ⟨rfl, hb2⟩
        have hb3 := hb1.trans (hb2.mono hb1.size)
        go_wp2_with fail
        go_ret2
        exact ⟨by rw [HU.out]; rfl, hb3⟩
end Go.Proofs.YtlcbhooiinaalaaGreatDoor.Cv
