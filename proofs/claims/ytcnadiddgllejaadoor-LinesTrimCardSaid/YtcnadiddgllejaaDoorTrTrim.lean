/- lines.Trim: what it makes of any text. Condition: fewer than 2^62 bytes. -/
import Derived.Test.YtcnadiddgllejaaDoorTrFace
namespace Go.Proofs.YtcnadiddgllejaaDoor.Li
open Go.RowKit
set_option maxRecDepth 100000

theorem left_drop (l : Bs) : Lib.trimLeftS l [32, 9] = l.drop (tl l) := tl_drop l
theorem right_take (l : Bs) : Lib.trimRightS l [32, 9] = l.take (tr l) := tr_take l

set_option maxHeartbeats 2000000 in
theorem trim_any (b : ByteArray) (w : World) (hb : b.size ≤ 4611686018427387904) : Calls Tryd.prog 6 #[.string b] w (Trimmed b w) := by
  have hlen : b.data.toList.length = b.size := Array.length_toList
  have hen := en_le b.data.toList
  have hms := mi_size b
  obtain ⟨r, hr⟩ : ∃ r : ByteArray, r = ⟨(Lib.trimLeftS b.data.toList [32, 9]).toArray⟩ := ⟨_, rfl⟩
  have hrl : r.data.toList = b.data.toList.drop (tl b.data.toList) := by rw [hr, left_drop]
  have hrs : r.size = b.size - tl b.data.toList := by
    have : r.data.toList.length = r.size := Array.length_toList
    rw [← this, hrl, List.length_drop, hlen]
  have hL := Tryd.strings_TrimLeft b w
  rw [← hr] at hL
  have hm : (⟨(Lib.trimRightS r.data.toList [32, 9]).toArray⟩ : ByteArray) = mi b := by
    rw [hrl, right_take, mi]
    congr 2
    unfold sl en
    rw [List.take_drop]
  have hR := fun W => Tryd.strings_TrimRight r W (by rw [hrs]; omega)
  rw [hm] at hR
  have hf : Value.string (b.extract 0 (tl b.data.toList)) = .string (fr b) := by rw [ext_sl]; rfl
  have hba : Value.string (r.extract (mi b).size r.size) = .string (ba b) := by
    rw [ext_sl, hrl, hms, hrs, ba, encs]
    congr 3
    unfold sl
    rw [← hlen, List.take_length, List.take_of_length_le (by rw [List.length_drop]; exact Nat.le_refl _), List.drop_drop]
    congr 1
    omega
  rw [hlen] at hen
  obtain ⟨i0, hi0⟩ : ∃ i, i = tl b.data.toList := ⟨_, rfl⟩
  obtain ⟨M, hM⟩ : ∃ M, M = mi b := ⟨_, rfl⟩
  have hw1 : IntKind.i64.wrap ((b.size : Int) - (r.size : Int)) = (i0 : Int) := by
    rw [IntKind.wrap_i64, hrs]
    omega
  rw [← hi0] at hf hen
  rw [← hM] at hms hR hba
  have hmr : M.size ≤ r.size := by omega
  have s0 : (0 : Int) ≤ (i0 : Int) := by omega
  have s1 : (i0 : Int) ≤ (b.size : Int) := by omega
  have s2 : (0 : Int) ≤ (M.size : Int) := by omega
  have s3 : (M.size : Int) ≤ (r.size : Int) := by omega
  have HL := Lib.hid hL
  have HR := Lib.hid hR
  have Hf := Lib.hid hf
  have Hba := Lib.hid hba
  have HM := Lib.hid hM
  clear hL hR hf hba hM hi0 hrl hrs hr hm hms hlen hen hmr
  go_enter Tryd.func6, Tryd.ntmps6
  go_wp2_with fail
  (with_reducible refine HL.out.mono ?_)
  rintro e w1 ⟨rfl, hb1⟩
  go_wp2_with fail
  (with_reducible refine (HR.out _).mono ?_)
  rintro e w2 ⟨rfl, hb2⟩
  go_wp2_with fail
  go_quiet (fail)
  go_wp2_with fail
  go_ret3
  exact ⟨by rw [← Hf.out, ← HM.out, ← Hba.out]; rfl, below_drewN (hb1.trans (hb2.mono hb1.size)) _⟩
end Go.Proofs.YtcnadiddgllejaaDoor.Li
