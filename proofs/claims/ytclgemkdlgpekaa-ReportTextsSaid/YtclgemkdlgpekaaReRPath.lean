/- The reference's Path and Text; the law's Few, same, only, known. Conditions: names of at most 2^28 bytes together. -/
import Derived.Test.YtclgemkdlgpekaaReParse
namespace Go.Proofs.Ytclgemkdlgpekaa.Re
open Go.RowKit Go.Proofs.Ytclgemkdlgpekaa.Pt
set_option maxRecDepth 100000

theorem app_mk (a b : ByteArray) : (a ++ b).data.toList = a.data.toList ++ b.data.toList := by simp
theorem eq_mk {O : ByteArray} {l : Bs} (h : O.data.toList = l) : O = mkB l := ba_eq h
theorem size_mk (l : Bs) : (mkB l).size = l.length := by show l.toArray.size = _; rw [List.size_toArray]
theorem below_dn {B : Nat} {w w' : World} (h : ∃ q, w' = w.drewN q) : Below B w w' := by
  obtain ⟨q, rfl⟩ := h
  exact below_drewN (Below.refl _ _) q

set_option maxHeartbeats 4000000 in
theorem rpath_any (p : List ByteArray) (A : Option Addr) (n c B : Nat) (w : World) (h : SeesV w B A n (p.map Value.string)) (hz : bulk p ≤ 268435456) :
    Calls Try.prog 12 #[.slice A n c] w fun e w' => e = .returned (.string (mkB (pathL p))) ∧ ∃ q, w' = w.drewN q := by
  have hlen := h.len
  rw [List.length_map] at hlen
  have hlb := len_bulk p
  by_cases hn : n = 0
  · subst hn
    have hp : p = [] := List.eq_nil_of_length_eq_zero hlen.symm
    subst hp
    clear h hlen hlb hz
    go_enter Try.func12, Try.ntmps12
    go_wp2_with fail
    go_ret
    exact ⟨rfl, 0, rfl⟩
  · have hn0 : ¬ ((n : Int) = 0) := by omega
    have hpne : p ≠ [] := by
      rintro rfl
      exact hn hlen
    have hnb : n ≤ 268435456 := by omega
    have HL := Lib.hid hlen
    have HN := Lib.hid hpne
    clear hlen hlb hpne
    go_enter Try.func12, Try.ntmps12
    go_wp2_with fail
    generalize ((n : Int) == 0) = bz
    go_loopw [3, 4] (fun o i wr => ∃ (k : Nat) (O : ByteArray), k ≤ n ∧ i = .int .i64 k ∧ o = .string O ∧ Hid (O.data.toList = pathT (p.take k)) ∧ Hid (∃ q, wr = w.drewN q)) (fun _ i _ => n - (intOf i).toNat)
    case atStart => exact ⟨0, ⟨#[]⟩, Nat.zero_le _, rfl, rfl, Lib.hid (by simp [pathT]), Lib.hid ⟨0, rfl⟩⟩
    case round =>
      obtain ⟨k, O, hk, rfl, rfl, HO, HW⟩ := hrel
      by_cases hlt : k < n
      · have q0 : (k : Int) < (n : Int) := by omega
        have q1 : (0 : Int) ≤ (k : Int) := by omega
        obtain ⟨s, b, o, hs, rfl, hbB, hc⟩ := strs_at (h.keep (w' := wr) (fun a ha => by obtain ⟨q, e⟩ := HW.out; rw [e]; rfl)) hlt
        obtain ⟨hst, hsz⟩ := path_step hs
        have hpl := pathT_len (p.take k)
        have hql := quo_len s
        have hOs : O.size = (pathT (p.take k)).length := by rw [← HO.out, Array.length_toList]; rfl
        have HQ := Lib.hid (rquoted_any s wr (by omega))
        have hadd := fun W => run_string_add_sum (P := Try.prog) W O ⟨#[47]⟩ (by have : (ByteArray.mk #[47]).size = 1 := rfl; omega)
        obtain ⟨O1, hO1⟩ : ∃ x, x = O ++ ⟨#[47]⟩ := ⟨_, rfl⟩
        rw [← hO1] at hadd
        have HO1 := Lib.hid (show O1.data.toList = pathT (p.take k) ++ [47] by rw [hO1, app_mk, HO.out])
        have HST := Lib.hid hst
        have hO1s : O1.size = O.size + 1 := by rw [hO1, ByteArray.size_append]; rfl
        have HS1 := Lib.hid (show O1.size + (quo s.data.toList).length ≤ 140737488355328 by omega)
        clear hs hst hsz hpl hql hO1 hOs h hO1s
        go_wp2_with fail
        (with_reducible refine HQ.out.mono ?_)
        rintro e w2 ⟨⟨Q, rfl, hQ⟩, hq⟩
        have hQs : Q.size = (quo s.data.toList).length := by rw [← hQ, Array.length_toList]; rfl
        have hadd2 := fun W => run_string_add_sum (P := Try.prog) W O1 Q (by have := HS1.out; omega)
        obtain ⟨O2, hO2⟩ : ∃ x, x = O1 ++ Q := ⟨_, rfl⟩
        rw [← hO2] at hadd2
        have HO2 := Lib.hid (show O2.data.toList = pathT (p.take (k + 1)) by rw [hO2, app_mk, HO1.out, hQ, HST.out]; simp)
        have HW2 : Hid (∃ q, w2 = w.drewN q) := Lib.hid (by
          obtain ⟨q1, e1⟩ := HW.out
          obtain ⟨q2, e2⟩ := hq
          exact ⟨q1 + q2, by rw [e2, e1, World.drewN_drewN]⟩)
        clear hO2 hQ hq hQs
        go_wp2_with fail
        go_roundw
        case rel => exact ⟨k + 1, O2, by omega, by go_num, rfl, HO2, HW2⟩
        case measure => simp [intOf]; omega
      · have hkn : (n : Int) ≤ (k : Int) := by omega
        obtain rfl : k = n := by omega
        have e : p.take k = p := List.take_of_length_le (by have := HL.out; omega)
        have HE := Lib.hid (show O = mkB (pathL p) from eq_mk (by rw [HO.out, e, pathL_ne HN.out]))
        clear e
        go_wp2_with fail
        go_ret
        exact ⟨by rw [← HE.out]; rfl, HW.out⟩

set_option maxHeartbeats 1000000 in
theorem few_any (p : List ByteArray) (A : Option Addr) (n c B : Nat) (w : World) (h : SeesV w B A n (p.map Value.string)) (hm : n ≤ maxLen) :
    Calls Try.prog 9 #[.slice A n c] w fun e w' => (∃ v : Bool, e = .returned (.bool v) ∧ (v = true → p.length ≤ 12 ∧ ∀ s ∈ p, s.size ≤ 60)) ∧ w' = w := by
  have hlen := h.len
  rw [List.length_map] at hlen
  simp only [maxLen] at hm
  have HL := Lib.hid hlen
  clear hlen
  go_enter Try.func9, Try.ntmps9
  go_wp2_with fail
  go_loopw [3] (fun i wr => ∃ k : Nat, k ≤ n ∧ i = .int .i64 k ∧ Hid (∀ s ∈ p.take k, s.size ≤ 60) ∧ wr = w) (fun i _ => n - (intOf i).toNat)
  case atStart => exact ⟨0, Nat.zero_le _, rfl, Lib.hid (by simp), rfl⟩
  case round =>
    obtain ⟨k, hk, rfl, HS, rfl⟩ := hrel
    by_cases hlt : k < n
    · have q0 : (k : Int) < (n : Int) := by omega
      have q1 : (0 : Int) ≤ (k : Int) := by omega
      obtain ⟨s, b, o, hs, rfl, hbB, hc⟩ := strs_at h hlt
      have Hs := Lib.hid hs
      clear hs h
      by_cases h60 : s.size ≤ 60
      · have h60' : ¬ ((60 : Int) < (s.size : Int)) := by omega
        have HS2 : Hid (∀ s ∈ p.take (k + 1), s.size ≤ 60) := Lib.hid (by
          intro x hx
          obtain ⟨hk2, e⟩ := List.getElem?_eq_some_iff.1 Hs.out
          rw [List.take_succ_eq_append_getElem hk2, e] at hx
          rcases List.mem_append.1 hx with hx | hx
          · exact HS.out x hx
          · simp only [List.mem_cons, List.not_mem_nil, or_false] at hx
            rw [hx]; exact h60)
        clear h60
        go_wp2_with fail
        go_roundw
        case rel => exact ⟨k + 1, by omega, by go_num, HS2, by trivial⟩
        case measure => simp [intOf]; omega
      · have h60' : (60 : Int) < (s.size : Int) := by omega
        clear h60
        go_wp2_with fail
        go_ret
        exact ⟨⟨false, rfl, fun h => by cases h⟩, rfl⟩
    · have hkn : (n : Int) ≤ (k : Int) := by omega
      obtain rfl : k = n := by omega
      have e : p.take k = p := List.take_of_length_le (by have := HL.out; omega)
      rw [e] at HS
      clear e h
      go_wp2_with fail
      go_ret
      refine ⟨⟨_, rfl, fun h => ⟨?_, HS.out⟩⟩, rfl⟩
      have := HL.out
      have h2 := of_decide_eq_true h
      omega
end Go.Proofs.Ytclgemkdlgpekaa.Re
