/- Front of the reference; same of the law. Conditions: paths of fewer than 2^30 names. -/
import Derived.Test.YtcfaocjgflefmaaDfPaths
import Derived.Deep.QuietTactic
import Derived.BigQuiet
namespace Go.Proofs.Ytcfaocjgflefmaa.Df
open Go.RowKit Go.Proofs.Ytcfaocjgflefmaa.Pt
set_option maxRecDepth 100000

theorem take_step {p q : List ByteArray} {k : Nat} {s : ByteArray} (h : p.take k = q.take k) (h1 : p[k]? = some s) (h2 : q[k]? = some s) : p.take (k + 1) = q.take (k + 1) := by
  rw [List.take_add_one, List.take_add_one, h, h1, h2]
theorem fr_all {p q : List ByteArray} (h : p.take q.length = q.take q.length) : fr p q = true := by
  rw [List.take_length] at h
  exact decide_eq_true h
theorem fr_not {p q : List ByteArray} {k : Nat} {s r : ByteArray} (h1 : p[k]? = some s) (h2 : q[k]? = some r) (hne : s ≠ r) : fr p q = false := by
  refine decide_eq_false fun e => hne ?_
  have hk : k < q.length := by
    rcases Nat.lt_or_ge k q.length with g | g
    · exact g
    · rw [List.getElem?_eq_none g] at h2; cases h2
  have h3 : (p.take q.length)[k]? = q[k]? := by rw [e]
  rw [List.getElem?_take_of_lt hk, h1, h2] at h3
  injection h3
theorem getD_some {p : List ByteArray} {k : Nat} (h : k < p.length) : p[k]? = some (p.getD k ⟨#[]⟩) := by rw [List.getD_eq_getElem?_getD, List.getElem?_eq_getElem h]; rfl
theorem toList_ne {s r : ByteArray} (h : s ≠ r) : ¬ s.toList = r.toList := fun e => h (bytes_eq e)

set_option maxHeartbeats 1000000 in
theorem rfront_any (p q : List ByteArray) (A A2 : Option Addr) (n c n2 c2 B : Nat) (w : World) (h1 : SeesV w B A n (p.map Value.string)) (h2 : SeesV w B A2 n2 (q.map Value.string)) (hn : n ≤ 1073741824) (hn2 : n2 ≤ 1073741824) :
    Calls Try.prog 21 #[.slice A n c, .slice A2 n2 c2] w (FrP (fr p q) w) := by
  have hl1 := h1.len
  have hl2 := h2.len
  rw [List.length_map] at hl1 hl2
  by_cases hle : n2 ≤ n
  · have hle1 : ¬ ((n : Int) < (n2 : Int)) := by omega
    have hle2 : ¬ (n < n2) := by omega
    have Hl1 := Lib.hid hl1
    have Hl2 := Lib.hid hl2
    have Hle := Lib.hid hle
    obtain ⟨v, hv⟩ : ∃ v, v = fr p q := ⟨_, rfl⟩
    rw [← hv]
    have Hv := Lib.hid hv
    clear hl1 hl2 hle hv
    go_enter Try.func21, Try.ntmps21
    go_wp2_with fail
    go_loopw [5] (fun i wr => ∃ k : Nat, k ≤ n2 ∧ i = .int .i64 k ∧ Hid (p.take k = q.take k) ∧ Hid (∃ d, wr = w.drewN d)) (fun i _ => n2 - (intOf i).toNat)
    case atStart => exact ⟨0, Nat.zero_le _, rfl, Lib.hid (by simp), Lib.hid ⟨0, rfl⟩⟩
    case round =>
      obtain ⟨k, hk, rfl, HT, HD⟩ := hrel
      by_cases hlt : k < n2
      · have hlt1 : k < n := by have := Hle.out; omega
        obtain ⟨b, o, rfl, hb1, hc1⟩ := h1.str hlt1
        obtain ⟨b', o', rfl, hb2, hc2⟩ := h2.str hlt
        have hg1 := getD_some (p := p) (k := k) (by have := Hl1.out; omega)
        have hg2 := getD_some (p := q) (k := k) (by have := Hl2.out; omega)
        obtain ⟨s, hs⟩ : ∃ s, s = p.getD k ⟨#[]⟩ := ⟨_, rfl⟩
        obtain ⟨r, hr⟩ : ∃ r, r = q.getD k ⟨#[]⟩ := ⟨_, rfl⟩
        rw [← hs] at hc1 hg1
        rw [← hr] at hc2 hg2
        obtain ⟨d, hd⟩ := HD.out
        have hw1 : wr.cell? ⟨b, o + k, none⟩ = some (.string s) := by rw [hd]; exact hc1
        have hw2 : wr.cell? ⟨b', o' + k, none⟩ = some (.string r) := by rw [hd]; exact hc2
        have hkn : (k : Int) < (n : Int) := by omega
        have hkn2 : (k : Int) < (n2 : Int) := by omega
        have hk0 : (0 : Int) ≤ (k : Int) := by omega
        have Hd := Lib.hid hd
        have Hlt := Lib.hid hlt
        have Hg1 := Lib.hid hg1
        have Hg2 := Lib.hid hg2
        clear hs hr hd hlt hg1 hg2 hc1 hc2 HD
        by_cases he : s = r
        · subst he
          have HT2 := Lib.hid (take_step HT.out Hg1.out Hg2.out)
          have hee : s.toList = s.toList := rfl
          go_wp2_with fail
          go_quiet (fail)
          go_wp2_with fail
          go_roundw
          case rel => exact ⟨k + 1, Hlt.out, by go_num, HT2, Lib.hid ⟨_, by rw [Hd.out, World.drewN_drewN]⟩⟩
          case measure => have := Hlt.out; simp [intOf]; omega
        · have hee := toList_ne he
          have Hne := Lib.hid (ne_beq he)
          have HF := Lib.hid (fr_not Hg1.out Hg2.out he)
          clear he
          go_wp2_with fail
          go_quiet (fail)
          clear hee
          go_wp2_with fail
          all_goals (try (exfalso; rename_i h; simp [Hne.out] at h; done))
          go_ret
          exact ⟨by rw [Hv.out, HF.out]; rfl, _, by rw [Hd.out, World.drewN_drewN]⟩
      · obtain rfl : k = n2 := by omega
        have HF := Lib.hid (show fr p q = true from fr_all (by rw [← Hl2.out]; exact HT.out))
        obtain ⟨d, hd⟩ := HD.out
        have Hd := Lib.hid hd
        clear hlt hd h1 h2
        go_wp2_with fail
        go_ret
        exact ⟨by rw [Hv.out, HF.out]; rfl, d, Hd.out⟩
  · rw [fr_long (by omega)]
    have hle1 : (n : Int) < (n2 : Int) := by omega
    have hle2 : n < n2 := by omega
    clear hl1 hl2 h1 h2 hle
    go_enter Try.func21, Try.ntmps21
    go_wp2_with fail
    go_ret
    exact ⟨rfl, 0, rfl⟩

set_option maxHeartbeats 1000000 in
theorem samep_any (p : List ByteArray) (A A2 : Option Addr) (n c n2 c2 B : Nat) (w : World) (h1 : SeesV w B A n (p.map Value.string)) (h2 : SeesV w B A2 n2 (p.map Value.string)) (hn : n ≤ 1073741824) :
    Calls Try.prog 13 #[.slice A n c, .slice A2 n2 c2] w (FrP true w) := by
  have hl1 := h1.len
  have hl2 := h2.len
  rw [List.length_map] at hl1 hl2
  obtain rfl : n = n2 := by omega
  have Hl1 := Lib.hid hl1
  have hnn : ((n : Int) != (n : Int)) = false := by simp
  clear hl1 hl2
  go_enter Try.func13, Try.ntmps13
  go_wp2_with fail
  go_loopw [5] (fun i wr => ∃ k : Nat, k ≤ n ∧ i = .int .i64 k ∧ Hid (∃ d, wr = w.drewN d)) (fun i _ => n - (intOf i).toNat)
  case atStart => exact ⟨0, Nat.zero_le _, rfl, Lib.hid ⟨0, rfl⟩⟩
  case round =>
    obtain ⟨k, hk, rfl, HD⟩ := hrel
    by_cases hlt : k < n
    · obtain ⟨b, o, rfl, hb1, hc1⟩ := h1.str hlt
      obtain ⟨b', o', rfl, hb2, hc2⟩ := h2.str hlt
      obtain ⟨s, hs⟩ : ∃ s, s = p.getD k ⟨#[]⟩ := ⟨_, rfl⟩
      rw [← hs] at hc1 hc2
      obtain ⟨d, hd⟩ := HD.out
      have hw1 : wr.cell? ⟨b, o + k, none⟩ = some (.string s) := by rw [hd]; exact hc1
      have hw2 : wr.cell? ⟨b', o' + k, none⟩ = some (.string s) := by rw [hd]; exact hc2
      have hkn : (k : Int) < (n : Int) := by omega
      have hk0 : (0 : Int) ≤ (k : Int) := by omega
      have Hd := Lib.hid hd
      have Hlt := Lib.hid hlt
      clear hs hd hlt hc1 hc2 HD
      have hee : s.toList = s.toList := rfl
      go_wp2_with fail
      go_quiet (fail)
      go_wp2_with fail
      go_roundw
      case rel => exact ⟨k + 1, Hlt.out, by go_num, Lib.hid ⟨_, by rw [Hd.out, World.drewN_drewN]⟩⟩
      case measure => have := Hlt.out; simp [intOf]; omega
    · obtain rfl : k = n := by omega
      obtain ⟨d, hd⟩ := HD.out
      have Hd := Lib.hid hd
      clear hlt hd h1 h2
      go_wp2_with fail
      go_ret
      exact ⟨rfl, d, Hd.out⟩
end Go.Proofs.Ytcfaocjgflefmaa.Df
