/- csv: what a file reads as: a tree, or the line at which it is none. No conditions. -/
import Derived.Test.YtecnilcfhicfmaaGreatDoorMw36
import Derived.Outline
namespace Go.Proofs.YtecnilcfhicfmaaGreatDoor.Cv
open Go.RowKit Go.Sort Go.Proofs.YtecnilcfhicfmaaGreatDoor.Jd Go.Proofs.YtecnilcfhicfmaaGreatDoor.Li Go.Proofs.YtecnilcfhicfmaaGreatDoor.Cl
set_option maxRecDepth 100000

theorem size_ofI (t : Tr) : ∀ is : List Nat, (ofI t is).size = (is.map fun i => (kdE t i).size + 1).sum
  | [] => rfl
  | i :: r => by simp only [ofI, Tr.size, List.map_cons, List.sum_cons, size_ofI t r]; omega
theorem size_all : ∀ t : Tr, t.size = ((List.range t.len).map fun i => (kdE t i).size + 1).sum
  | .nil => rfl
  | .cons s k r => by
    rw [Tr.size, Tr.len, List.range_succ_eq_map, List.map_cons, List.map_map, List.sum_cons, size_all r]
    simp only [kdE, Function.comp_def]
    omega
theorem srtE_size (t : Tr) : (srtE t).size = t.size := by
  rw [srtE, size_ofI, size_all t]
  exact ((pdq_mem t).2.1.map _).sum_nat
theorem nm_at : ∀ (t : Tr) (i : Nat), Tr.Nm t → (nmE t i).size ≤ 140737488351232 ∧ Tr.Nm (kdE t i)
  | .nil, _, _ => ⟨by simp [nmE], trivial⟩
  | .cons _ _ _, 0, h => ⟨h.1, h.2.1⟩
  | .cons _ _ r, i + 1, h => nm_at r i h.2.2
theorem nm_ofI (t : Tr) (h : Tr.Nm t) : ∀ is : List Nat, Tr.Nm (ofI t is)
  | [] => trivial
  | i :: r => ⟨(nm_at t i h).1, (nm_at t i h).2, nm_ofI t h r⟩
theorem srtE_nm (t : Tr) (h : Tr.Nm t) : Tr.Nm (srtE t) := nm_ofI t h _
theorem srtE_one {t : Tr} (h : t.len ≤ 1) : srtE t = t := by
  have hp := (pdq_mem t).2.1
  unfold srtE
  match t, h with
  | .nil, _ => exact srtE_nil
  | .cons s k .nil, _ =>
    have e : (pdq (ltOf (cfE (.cons s k .nil))) (Array.range (Tr.cons s k .nil).len) 0 (Tr.cons s k .nil).len (Lib.bitLen (Tr.cons s k .nil).len) true true).toList = [0] := List.perm_singleton.1 hp
    rw [e]
    rfl
  | .cons _ _ (.cons _ _ _), h => simp [Tr.len] at h
theorem cB_size {z : ByteArray} (h : cB z = true) : z.size ≤ 80 := by
  simp only [cB, nB, vB, Bool.and_eq_true, decide_eq_true_eq] at h
  exact h.1.2.1
theorem vB_size {z : ByteArray} (h : vB z = true) : z.size ≤ 80 := by
  simp only [vB, Bool.and_eq_true, decide_eq_true_eq] at h
  exact h.1
/-- Rows without a fault. -/
def RowsOk : List Rw → Prop
  | [] => True
  | h :: t => h.fs ≠ [] ∧ h.fs.length ≤ 4001 ∧ (∀ z ∈ (mns h.fs).tail, z.size ≤ 80) ∧ ∀ r ∈ t, r.fs.length = h.fs.length ∧ ∀ z ∈ mns r.fs, z.size ≤ 80
theorem rows_push {acc : List Rw} {x : Ln} (h : RowsOk acc) (hx : x.1.length ≤ 4000) (hf : ¬ faultF acc (rowF x) ≠ 0) : RowsOk (acc ++ [rowF x]) := by
  have h0 := fault_fs hf
  have hl := fldsL_len x.1
  cases acc with
  | nil =>
    refine ⟨h0, by show (fldsL x.1).length ≤ 4001; omega, ?_, fun r hr => by cases hr⟩
    intro z hz
    unfold faultF at hf
    rw [if_neg h0] at hf
    show z.size ≤ 80
    cases hm : mns (rowF x).fs with
    | nil => rw [hm] at hz; cases hz
    | cons m cols =>
      rw [hm] at hz
      simp only [hm, headF] at hf
      split at hf
      · exact absurd (by decide) hf
      · split at hf
        · exact absurd (by decide) hf
        · rename_i _ hc
          have hc : cols.all cB = true := by simpa using hc
          exact cB_size (List.all_eq_true.1 hc z hz)
  | cons a t =>
    obtain ⟨h1, h2, h3, h4⟩ := h
    refine ⟨h1, h2, h3, fun r hr => ?_⟩
    rcases List.mem_append.1 hr with hr | hr
    · exact h4 r hr
    · obtain rfl : r = rowF x := by simpa using hr
      unfold faultF at hf
      rw [if_neg h0] at hf
      simp only at hf
      split at hf
      · exact absurd (by decide) hf
      · split at hf
        · exact absurd (by decide) hf
        · split at hf
          · exact absurd (by decide) hf
          · rename_i e1 _ e2
            have e2 : (mns (rowF x).fs).all vB = true := by simpa using e2
            exact ⟨Decidable.not_not.1 e1, fun z hz => vB_size (List.all_eq_true.1 e2 z hz)⟩
theorem rowsF_ok : ∀ (ls : List Ln) (acc : List Rw) (i : Nat), RowsOk acc → (∀ x ∈ ls, x.1.length ≤ 4000) → RowsOk (rowsF acc i ls).1 ∧ (rowsF acc i ls).1.length ≤ acc.length + ls.length ∧ ((rowsF acc i ls).2.2 = 0 → ls ≠ [] → (rowsF acc i ls).1 ≠ [])
  | [], acc, i, h, _ => ⟨h, by simp [rowsF], fun _ h => absurd rfl h⟩
  | x :: r, acc, i, h, hz => by
    rw [rowsF]
    split
    · rename_i hf
      exact ⟨trivial, Nat.zero_le _, fun h _ => absurd h hf⟩
    · rename_i hf
      obtain ⟨a, b, c⟩ := rowsF_ok r (acc ++ [rowF x]) (i + 1) (rows_push h (hz x (by simp)) hf) (fun y hy => hz y (by simp [hy]))
      refine ⟨a, by simp at b ⊢; omega, fun h0 _ => ?_⟩
      by_cases hr : r = []
      · subst hr; simp [rowsF]
      · exact c h0 hr
theorem rawB_ok : ∀ (cols vs : List ByteArray), (∀ z ∈ cols, z.size ≤ 80) → (∀ z ∈ vs, z.size ≤ 80) → Tr.Nm (rawB cols vs) ∧ (rawB cols vs).size ≤ 2 * cols.length
  | [], vs, _, _ => by unfold rawB; exact ⟨trivial, Nat.zero_le _⟩
  | c :: cs, [], _, _ => by unfold rawB; exact ⟨trivial, Nat.zero_le _⟩
  | c :: cs, v :: vs, h1, h2 => by
    obtain ⟨a, b⟩ := rawB_ok cs vs (fun z hz => h1 z (by simp [hz])) (fun z hz => h2 z (by simp [hz]))
    have hc := h1 c (by simp)
    have hv := h2 v (by simp)
    rw [rawB]
    split
    · exact ⟨a, by simp only [List.length_cons]; omega⟩
    · exact ⟨⟨by omega, ⟨by omega, trivial, trivial⟩, a⟩, by simp only [List.length_cons, Tr.size]; omega⟩
theorem recs_ok (cols : List ByteArray) (hc : ∀ z ∈ cols, z.size ≤ 80) : ∀ (rs : List Rw), (∀ r ∈ rs, ∀ z ∈ mns r.fs, z.size ≤ 80) → Tr.Nm (recsT srtE cols rs) ∧ (recsT srtE cols rs).size ≤ rs.length * (2 * cols.length + 1)
  | [], _ => ⟨trivial, Nat.zero_le _⟩
  | r :: rs, h => by
    obtain ⟨a, b⟩ := recs_ok cols hc rs (fun q hq => h q (by simp [hq]))
    have hm := h r (by simp)
    obtain ⟨a2, b2⟩ := rawB_ok cols (mns r.fs.tail) hc (fun z hz => hm z (by
      cases hf : r.fs with
      | nil => rw [hf] at hz; cases hz
      | cons x l => rw [hf] at hz; exact List.mem_cons_of_mem _ hz))
    have hn : (nm r).size ≤ 80 := by
      unfold nm
      cases hf : mns r.fs with
      | nil => exact Nat.zero_le _
      | cons z l => exact hm z (by rw [hf]; simp)
    have e := srtE_size (rawB cols (mns r.fs.tail))
    refine ⟨⟨by omega, srtE_nm _ a2, a⟩, ?_⟩
    simp only [recsT, Tr.size, List.length_cons, Nat.add_mul]
    omega
/-- The columns of a head. -/
def colsR (h : Rw) : List ByteArray := mns h.fs.tail
/-- What rows say. -/
def treeR : List Rw → Tr
  | [] => .nil
  | h :: t => srtE (recsT srtE (colsR h) t)
/-- What a file reads as: its tree, or the line, and the error. -/
def readF (l : Bs) : Tr × Nat × Int :=
  if 4000 < l.length then (.nil, 0, 5) else
  if (rowsF [] 0 (split l)).2.2 ≠ 0 then (.nil, (rowsF [] 0 (split l)).2.1, (rowsF [] 0 (split l)).2.2) else
  match (rowsF [] 0 (split l)).1 with
  | [] => (.nil, 0, 2)
  | h :: t => if (treeR (h :: t)).fault ≠ 0 then (.nil, 0, ((treeR (h :: t)).fault : Nat)) else (treeR (h :: t), 0, 0)
theorem treeR_ok {h : Rw} {t : List Rw} (hk : RowsOk (h :: t)) (hl : t.length ≤ 5000) : Tr.Nm (treeR (h :: t)) ∧ (treeR (h :: t)).size ≤ 17179869184 := by
  obtain ⟨h1, h2, h3, h4⟩ := hk
  have hc : ∀ z ∈ colsR h, z.size ≤ 80 := fun z hz => h3 z (by
    unfold colsR at hz
    cases hf : h.fs with
    | nil => rw [hf] at hz; cases hz
    | cons x l => rw [hf] at hz; exact hz)
  have hcl : (colsR h).length ≤ 4001 := by unfold colsR; rw [mns_len]; simp; omega
  obtain ⟨a, b⟩ := recs_ok (colsR h) hc t (fun r hr => (h4 r hr).2)
  refine ⟨srtE_nm _ a, ?_⟩
  show (srtE _).size ≤ _
  rw [srtE_size]
  have : t.length * (2 * (colsR h).length + 1) ≤ 5000 * 8003 := Nat.mul_le_mul hl (by omega)
  omega
theorem spl_lens : ∀ (r cur : Bs) (x : Ln), x ∈ spl cur r → x.1.length ≤ cur.length + r.length := fun r cur x hx => by
  have hj := join_spl r cur
  have : ∀ (l : List Ln) (x : Ln), x ∈ l → x.1.length ≤ (join l).length := by
    intro l
    induction l with
    | nil => intro x hx; cases hx
    | cons y l ih =>
      intro x hx
      simp only [join, List.length_append]
      rcases List.mem_cons.1 hx with rfl | hx
      · omega
      · have := ih x hx; omega
  have h := this _ x hx
  rw [hj, List.length_append] at h
  exact h
theorem split_lens (l : Bs) : ∀ x ∈ split l, x.1.length ≤ l.length := fun x hx => by
  have := spl_lens l [] x hx
  simpa using this
end Go.Proofs.YtecnilcfhicfmaaGreatDoor.Cv
