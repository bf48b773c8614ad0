/- Get of the reference. Conditions: fewer than 2^39 edges. -/
import Derived.Test.YtcfaocjgflefmaaDfLaw
import Derived.Outline
namespace Go.Proofs.Ytcfaocjgflefmaa.Pt
open Go.RowKit
set_option maxRecDepth 100000

def RGetP (w : World) (r : Tr × Bool) (e : Ending) (w' : World) : Prop :=
  ∃ A' n' c', e = .returned (.tuple #[.slice A' n' c', .bool r.2]) ∧ OkT w A' n' c' r.1 ∧ ∃ q, w' = w.drewN q

set_option maxHeartbeats 2000000 in
theorem rget_any (t : Tr) (ps : List ByteArray) (A Ap : Option Addr) (n c np cp : Nat) (w : World) (ht : OkT w A n c t) (hp : SeesV w w.heap.size Ap np (ps.map Value.string)) (hz : t.size ≤ 274877906944) (hps : ps.length ≤ 1000000) :
    Calls Try.prog 16 #[.slice A n c, .slice Ap np cp] w (RGetP w (getT t ps)) := by
  have hnp : np ≤ 1000000 := by have := hp.len; rw [List.length_map] at this; omega
  have Hnp := Lib.hid (show np = ps.length by have := hp.len; rwa [List.length_map] at this)
  obtain ⟨T, hT⟩ : ∃ T, T = getT t ps := ⟨_, rfl⟩
  rw [← hT]
  have HI0 := Lib.hid (show OkT w A n c t ∧ t.size ≤ 274877906944 ∧ getT t ps = T from ⟨ht, hz, hT.symm⟩)
  clear ht hT hz
  go_enter Try.func16, Try.ntmps16
  go_wp2_with fail
  go_loopw [0, 6] (fun a i wr => ∃ (k : Nat) (Au : Option Addr) (nu cu : Nat) (u : Tr) (q : Nat), k ≤ np ∧ a = .slice Au nu cu ∧ i = .int .i64 k ∧ Hid (OkT w Au nu cu u ∧ u.size ≤ 274877906944 ∧ getT u (ps.drop k) = T) ∧ Hid (wr = w.drewN q)) (fun _ i _ => np - (intOf i).toNat)
  case atStart => exact ⟨0, A, n, c, t, 0, Nat.zero_le _, rfl, rfl, by rw [List.drop_zero]; exact HI0, Lib.hid rfl⟩
  case round =>
    obtain ⟨k, Au, nu, cu, u, q, hk, rfl, rfl, HI, HW⟩ := hrel
    by_cases hlt : k < np
    · obtain ⟨bp, op, rfl, hbp, hcp⟩ := hp.str hlt
      obtain ⟨name, hname⟩ : ∃ s, s = ps.getD k ⟨#[]⟩ := ⟨_, rfl⟩
      rw [← hname] at hcp
      have hdrop : ps.drop k = name :: ps.drop (k + 1) := by
        have hl : k < ps.length := by rw [← Hnp.out]; exact hlt
        rw [List.drop_eq_getElem_cons hl, hname, List.getD_eq_getElem?_getD, List.getElem?_eq_getElem hl]
        rfl
      have hcpw : wr.cell? ⟨bp, op + k, none⟩ = some (.string name) := by rw [HW.out]; exact hcp
      have hkn : (k : Int) < (np : Int) := by omega
      have hk0 : (0 : Int) ≤ (k : Int) := by omega
      have hul := HI.out.1.holds.len
      have hus := u.len_size
      have hus2 := HI.out.2.1
      have HF := Lib.hid (kid2_any u Au nu cu w.heap.size name wr (by rw [HW.out]; exact HI.out.1.holds.drewN q) (by rw [HW.out]; exact Nat.le_refl _) (by omega))
      obtain ⟨v, hv⟩ : ∃ v, v = u.atIs name := ⟨_, rfl⟩
      rw [← hv] at HF
      have Hdrop := Lib.hid hdrop
      have Hlt := Lib.hid hlt
      clear hname hdrop hcp hlt hul hus hus2
      cases v with
      | true =>
        have heq : getT (kidT u name) (ps.drop (k + 1)) = T := by
          have := HI.out.2.2
          rw [Hdrop.out, getT, if_pos hv.symm] at this
          exact this
        have Heq := Lib.hid heq
        clear hv heq
        go_wp2_with fail
        (with_reducible refine HF.out.mono ?_)
        rintro e w2 ⟨A', n', c', rfl, hk', hn', hc', q2, hw2⟩
        have hko : OkT w A' n' c' (kidT u name) := ⟨Holds.keep (w := wr) (w' := w) (fun _ _ => by rw [HW.out]; rfl) hk', hn', hc'⟩
        have Hko := Lib.hid hko
        have Hw2 := Lib.hid hw2
        clear hk' hko hw2
        go_wp2_with fail
        go_roundw
        case rel => exact ⟨k + 1, A', n', c', _, q + q2, Hlt.out, rfl, by go_num, Lib.hid ⟨Hko.out, Nat.le_trans (kidT_size u name) HI.out.2.1, Heq.out⟩, Lib.hid (by rw [Hw2.out, HW.out, World.drewN_drewN])⟩
        case measure => have := Hlt.out; simp [intOf]; omega
      | false =>
        have heq : (Tr.nil, false) = T := by
          have := HI.out.2.2
          rw [Hdrop.out, getT, if_neg (by rw [← hv]; simp)] at this
          exact this
        have Heq := Lib.hid heq
        clear hv heq
        go_wp2_with fail
        (with_reducible refine HF.out.mono ?_)
        rintro e w2 ⟨A', n', c', rfl, hk', hn', hc', q2, hw2⟩
        have Hw2 := Lib.hid hw2
        clear hk' hw2
        go_wp2_with fail
        go_ret2
        exact ⟨none, 0, 0, by rw [← Heq.out]; rfl, by rw [← Heq.out]; exact ⟨rfl, Nat.le_refl _, Nat.zero_le _⟩, q + q2, by rw [Hw2.out, HW.out, World.drewN_drewN]⟩
    · obtain rfl : k = np := by omega
      have hnil : ps.drop k = [] := List.drop_eq_nil_of_le (by rw [Hnp.out]; exact Nat.le_refl _)
      have heq : (u, true) = T := by
        have := HI.out.2.2
        rw [hnil, getT] at this
        exact this
      have Heq := Lib.hid heq
      clear hnil hlt hp heq
      go_wp2_with fail
      go_ret2
      exact ⟨Au, nu, cu, by rw [← Heq.out]; rfl, by rw [← Heq.out]; exact HI.out.1, q, HW.out⟩
end Go.Proofs.Ytcfaocjgflefmaa.Pt
