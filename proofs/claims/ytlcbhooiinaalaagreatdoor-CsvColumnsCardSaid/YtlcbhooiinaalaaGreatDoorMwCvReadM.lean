/- csv: what a file reads as: a tree, or the line at which it is none. No conditions. · lines.Split: what it makes of any text. Conditions: fewer than 2^38 bytes. -/
import Derived.Test.YtlcbhooiinaalaaGreatDoorMwCvCols
import Derived.Outline
import Derived.Test.YtlcbhooiinaalaaGreatDoorMwLiRow
import Derived.Deep.RegionHeld3
import Derived.Deep.DrawnRows
namespace Go.Proofs.YtlcbhooiinaalaaGreatDoor.Cv
open Go.RowKit Go.Sort Go.Proofs.YtlcbhooiinaalaaGreatDoor.Jd Go.Proofs.YtlcbhooiinaalaaGreatDoor.Li Go.Proofs.YtlcbhooiinaalaaGreatDoor.Cl
set_option maxRecDepth 100000

theorem size_ofI (t : Tr) : ∀ is : List Nat, (ofI t is).size = (is.map fun i => (kdE t i).size + 1).sum
  | [] => rfl
  | i :: r => by simp only [ofI, Tr.size, List.map_cons, List.sum_cons, size_ofI t r]; omega
theorem size_all : ∀ t : Tr, t.size = ((List.range t.len).map fun i => (kdE t i).size + 1).sum
  | .nil => rfl
  | .cons s k r => by
    rw [Tr.size, Tr.len, List.range_succ_eq_map, List.map_cons, List.map_map, List.sum_cons, size_all r]
    simp only [kdE, Function.comp_def]
    omega
theorem srtE_size (t : Tr) : (srtE t).size = t.size := by
  rw [srtE, size_ofI, size_all t]
  exact ((pdq_mem t).2.1.map _).sum_nat
theorem nm_at : ∀ (t : Tr) (i : Nat), Tr.Nm t → (nmE t i).size ≤ 140737488351232 ∧ Tr.Nm (kdE t i)
  | .nil, _, _ => ⟨by simp [nmE], trivial⟩
  | .cons _ _ _, 0, h => ⟨h.1, h.2.1⟩
  | .cons _ _ r, i + 1, h => nm_at r i h.2.2
theorem nm_ofI (t : Tr) (h : Tr.Nm t) : ∀ is : List Nat, Tr.Nm (ofI t is)
  | [] => trivial
  | i :: r => ⟨(nm_at t i h).1, (nm_at t i h).2, nm_ofI t h r⟩
theorem srtE_nm (t : Tr) (h : Tr.Nm t) : Tr.Nm (srtE t) := nm_ofI t h _
theorem srtE_one {t : Tr} (h : t.len ≤ 1) : srtE t = t := by
  have hp := (pdq_mem t).2.1
  unfold srtE
  match t, h with
  | .nil, _ => exact srtE_nil
  | .cons s k .nil, _ =>
    have e : (pdq (ltOf (cfE (.cons s k .nil))) (Array.range (Tr.cons s k .nil).len) 0 (Tr.cons s k .nil).len (Lib.bitLen (Tr.cons s k .nil).len) true true).toList = [0] := List.perm_singleton.1 hp
    rw [e]
    rfl
  | .cons _ _ (.cons _ _ _), h => simp [Tr.len] at h
theorem cB_size {z : ByteArray} (h : cB z = true) : z.size ≤ 80 := by
  simp only [cB, nB, vB, Bool.and_eq_true, decide_eq_true_eq] at h
  exact h.1.2.1
theorem vB_size {z : ByteArray} (h : vB z = true) : z.size ≤ 80 := by
  simp only [vB, Bool.and_eq_true, decide_eq_true_eq] at h
  exact h.1
/-- Rows without a fault. -/
def RowsOk : List Rw → Prop
  | [] => True
  | h :: t => h.fs ≠ [] ∧ h.fs.length ≤ 4001 ∧ (∀ z ∈ (mns h.fs).tail, z.size ≤ 80) ∧ ∀ r ∈ t, r.fs.length = h.fs.length ∧ ∀ z ∈ mns r.fs, z.size ≤ 80
theorem rows_push {acc : List Rw} {x : Ln} (h : RowsOk acc) (hx : x.1.length ≤ 4000) (hf : ¬ faultF acc (rowF x) ≠ 0) : RowsOk (acc ++ [rowF x]) := by
  have h0 := fault_fs hf
  have hl := fldsL_len x.1
  cases acc with
  | nil =>
    refine ⟨h0, by show (fldsL x.1).length ≤ 4001; omega, ?_, fun r hr => by cases hr⟩
    intro z hz
    unfold faultF at hf
    rw [if_neg h0] at hf
    show z.size ≤ 80
    cases hm : mns (rowF x).fs with
    | nil => rw [hm] at hz; cases hz
    | cons m cols =>
      rw [hm] at hz
      simp only [hm, headF] at hf
      split at hf
      · exact absurd (by decide) hf
      · split at hf
        · exact absurd (by decide) hf
        · rename_i _ hc
          have hc : cols.all cB = true := by simpa using hc
          exact cB_size (List.all_eq_true.1 hc z hz)
  | cons a t =>
    obtain ⟨h1, h2, h3, h4⟩ := h
    refine ⟨h1, h2, h3, fun r hr => ?_⟩
    rcases List.mem_append.1 hr with hr | hr
    · exact h4 r hr
    · obtain rfl : r = rowF x := by simpa using hr
      unfold faultF at hf
      rw [if_neg h0] at hf
      simp only at hf
      split at hf
      · exact absurd (by decide) hf
      · split at hf
        · exact absurd (by decide) hf
        · split at hf
          · exact absurd (by decide) hf
          · rename_i e1 _ e2
            have e2 : (mns (rowF x).fs).all vB = true := by simpa using e2
            exact ⟨Decidable.not_not.1 e1, fun z hz => vB_size (List.all_eq_true.1 e2 z hz)⟩
theorem rowsF_ok : ∀ (ls : List Ln) (acc : List Rw) (i : Nat), RowsOk acc → (∀ x ∈ ls, x.1.length ≤ 4000) → RowsOk (rowsF acc i ls).1 ∧ (rowsF acc i ls).1.length ≤ acc.length + ls.length ∧ ((rowsF acc i ls).2.2 = 0 → ls ≠ [] → (rowsF acc i ls).1 ≠ [])
  | [], acc, i, h, _ => ⟨h, by simp [rowsF], fun _ h => absurd rfl h⟩
  | x :: r, acc, i, h, hz => by
    rw [rowsF]
    split
    · rename_i hf
      exact ⟨trivial, Nat.zero_le _, fun h _ => absurd h hf⟩
    · rename_i hf
      obtain ⟨a, b, c⟩ := rowsF_ok r (acc ++ [rowF x]) (i + 1) (rows_push h (hz x (by simp)) hf) (fun y hy => hz y (by simp [hy]))
      refine ⟨a, by simp at b ⊢; omega, fun h0 _ => ?_⟩
      by_cases hr : r = []
      · subst hr; simp [rowsF]
      · exact c h0 hr
theorem rawB_ok : ∀ (cols vs : List ByteArray), (∀ z ∈ cols, z.size ≤ 80) → (∀ z ∈ vs, z.size ≤ 80) → Tr.Nm (rawB cols vs) ∧ (rawB cols vs).size ≤ 2 * cols.length
  | [], vs, _, _ => by unfold rawB; exact ⟨trivial, Nat.zero_le _⟩
  | c :: cs, [], _, _ => by unfold rawB; exact ⟨trivial, Nat.zero_le _⟩
  | c :: cs, v :: vs, h1, h2 => by
    obtain ⟨a, b⟩ := rawB_ok cs vs (fun z hz => h1 z (by simp [hz])) (fun z hz => h2 z (by simp [hz]))
    have hc := h1 c (by simp)
    have hv := h2 v (by simp)
    rw [rawB]
    split
    · exact ⟨a, by simp only [List.length_cons]; omega⟩
    · exact ⟨⟨by omega, ⟨by omega, trivial, trivial⟩, a⟩, by simp only [List.length_cons, Tr.size]; omega⟩
theorem recs_ok (cols : List ByteArray) (hc : ∀ z ∈ cols, z.size ≤ 80) : ∀ (rs : List Rw), (∀ r ∈ rs, ∀ z ∈ mns r.fs, z.size ≤ 80) → Tr.Nm (recsT srtE cols rs) ∧ (recsT srtE cols rs).size ≤ rs.length * (2 * cols.length + 1)
  | [], _ => ⟨trivial, Nat.zero_le _⟩
  | r :: rs, h => by
    obtain ⟨a, b⟩ := recs_ok cols hc rs (fun q hq => h q (by simp [hq]))
    have hm := h r (by simp)
    obtain ⟨a2, b2⟩ := rawB_ok cols (mns r.fs.tail) hc (fun z hz => hm z (by
      cases hf : r.fs with
      | nil => rw [hf] at hz; cases hz
      | cons x l => rw [hf] at hz; exact List.mem_cons_of_mem _ hz))
    have hn : (nm r).size ≤ 80 := by
      unfold nm
      cases hf : mns r.fs with
      | nil => exact Nat.zero_le _
      | cons z l => exact hm z (by rw [hf]; simp)
    have e := srtE_size (rawB cols (mns r.fs.tail))
    refine ⟨⟨by omega, srtE_nm _ a2, a⟩, ?_⟩
    simp only [recsT, Tr.size, List.length_cons, Nat.add_mul]
    omega
/-- The columns of a head. -/
def colsR (h : Rw) : List ByteArray := mns h.fs.tail
/-- What rows say. -/
def treeR : List Rw → Tr
  | [] => .nil
  | h :: t => srtE (recsT srtE (colsR h) t)
/-- What a file reads as: its tree, or the line, and the error. -/
def readF (l : Bs) : Tr × Nat × Int :=
  if 4000 < l.length then (.nil, 0, 5) else
  if (rowsF [] 0 (split l)).2.2 ≠ 0 then (.nil, (rowsF [] 0 (split l)).2.1, (rowsF [] 0 (split l)).2.2) else
  match (rowsF [] 0 (split l)).1 with
  | [] => (.nil, 0, 2)
  | h :: t => if (treeR (h :: t)).fault ≠ 0 then (.nil, 0, ((treeR (h :: t)).fault : Nat)) else (treeR (h :: t), 0, 0)
theorem treeR_ok {h : Rw} {t : List Rw} (hk : RowsOk (h :: t)) (hl : t.length ≤ 5000) : Tr.Nm (treeR (h :: t)) ∧ (treeR (h :: t)).size ≤ 17179869184 := by
  obtain ⟨h1, h2, h3, h4⟩ := hk
  have hc : ∀ z ∈ colsR h, z.size ≤ 80 := fun z hz => h3 z (by
    unfold colsR at hz
    cases hf : h.fs with
    | nil => rw [hf] at hz; cases hz
    | cons x l => rw [hf] at hz; exact hz)
  have hcl : (colsR h).length ≤ 4001 := by unfold colsR; rw [mns_len]; simp; omega
  obtain ⟨a, b⟩ := recs_ok (colsR h) hc t (fun r hr => (h4 r hr).2)
  refine ⟨srtE_nm _ a, ?_⟩
  show (srtE _).size ≤ _
  rw [srtE_size]
  have : t.length * (2 * (colsR h).length + 1) ≤ 5000 * 8003 := Nat.mul_le_mul hl (by omega)
  omega
theorem spl_lens : ∀ (r cur : Bs) (x : Ln), x ∈ spl cur r → x.1.length ≤ cur.length + r.length := fun r cur x hx => by
  have hj := join_spl r cur
  have : ∀ (l : List Ln) (x : Ln), x ∈ l → x.1.length ≤ (join l).length := by
    intro l
    induction l with
    | nil => intro x hx; cases hx
    | cons y l ih =>
      intro x hx
      simp only [join, List.length_append]
      rcases List.mem_cons.1 hx with rfl | hx
      · omega
      · have := ih x hx; omega
  have h := this _ x hx
  rw [hj, List.length_append] at h
  exact h
theorem split_lens (l : Bs) : ∀ x ∈ split l, x.1.length ≤ l.length := fun x hx => by
  have := spl_lens l [] x hx
  simpa using this
end Go.Proofs.YtlcbhooiinaalaaGreatDoor.Cv
namespace Go.Proofs.YtlcbhooiinaalaaGreatDoor.Li
open Go.RowKit
set_option maxRecDepth 100000
attribute [local go_sem ↓] Go.wp_at_zero Go.wp_at_succ

/-- What is made so far: f lines' bytes are done, j read. -/
structure Sofar (b : ByteArray) (w wr : World) (A : Option Addr) (N c f j : Nat) (ls : List Ln) : Prop where
  inv : Inv b.data.toList f j ls
  own : OwnL wr w.heap.size A N c ls
  len : N = ls.length
  keep : Below w.heap.size w wr
theorem Sofar.line {b : ByteArray} {w wr w4 : World} {A A4 : Option Addr} {N c c4 f j : Nat} {ls : List Ln} {o : Obj} (h : Sofar b w wr A N c f j ls) (hj : j < b.size) (h10 : b[j] = 10)
    (ho : w4.ownsRow w.heap.size 88 2 (.slice A4 (N + 1) c4) (N + 1) (lcells ls ++ [encs (sl b.data.toList f (lo b.data.toList f j)), encs (sl b.data.toList (lo b.data.toList f j) (j + 1))]))
    (hg : (wr.alloc o).drew.grownBy w4 (Value.slice A N c).ownBlock) : Sofar b w w4 A4 (N + 1) c4 (j + 1) (j + 1) (ls ++ [(sl b.data.toList f (lo b.data.toList f j), sl b.data.toList (lo b.data.toList f j) (j + 1))]) where
  inv := h.inv.line (show j < b.data.toList.length from hj) h10
  own := by rw [OwnL, lcells_append]; exact ho
  len := by rw [List.length_append, h.len]; rfl
  keep := (h.keep.alloc h.keep.size _).grown (grown_undrew hg) (by have := h.keep.size; simp; omega) (fun k hk => (h.own.lt k hk).1)
/-- At a label, with k left. -/
def At2 (b : ByteArray) (w : World) (a : Act) (wr : World) (k : Nat) : Prop :=
  ∃ A N c f j ls, Sofar b w wr A N c f j ls ∧ k + j = b.size + 1 ∧ ∃ u1 u2 u7 u8 u9 u10 u11 u12 u13 u14 u15 u16 u17 u18 u19 u20 u21 u22 u23 u24 u25 u26 u27 u28 u29 u30 u31 u32 u33 u34 u35 u36 u37 u38 u39 u40 u41 u42 u43 u44 u45 u46 u47 u48 : Value, a = { tmps := #[.string b, u1, u2, .slice A N c, .int .i64 (f : Int), .int .i64 (lo b.data.toList f j : Int), .int .i64 (j : Int), u7, u8, u9, u10, u11, u12, u13, u14, u15, u16, u17, u18, u19, u20, u21, u22, u23, u24, u25, u26, u27, u28, u29, u30, u31, u32, u33, u34, u35, u36, u37, u38, u39, u40, u41, u42, u43, u44, u45, u46, u47, u48], defers := [] }
def At0 (b : ByteArray) (w : World) (a : Act) (wr : World) (k : Nat) : Prop :=
  ∃ A N c f j ls, Sofar b w wr A N c f j ls ∧ cr b.data.toList f j = false ∧ k + j = b.size + 1 ∧ ∃ u1 u2 u5 u7 u8 u9 u10 u11 u12 u13 u14 u15 u16 u17 u18 u19 u20 u21 u22 u23 u24 u25 u26 u27 u28 u29 u30 u31 u32 u33 u34 u35 u36 u37 u38 u39 u40 u41 u42 u43 u44 u45 u46 u47 u48 : Value, a = { tmps := #[.string b, u1, u2, .slice A N c, .int .i64 (f : Int), u5, .int .i64 (j : Int), u7, u8, u9, u10, u11, u12, u13, u14, u15, u16, u17, u18, u19, u20, u21, u22, u23, u24, u25, u26, u27, u28, u29, u30, u31, u32, u33, u34, u35, u36, u37, u38, u39, u40, u41, u42, u43, u44, u45, u46, u47, u48], defers := [] }
def At1 (b : ByteArray) (w : World) (a : Act) (wr : World) (_ : Nat) : Prop :=
  ∃ A N c f ls, Sofar b w wr A N c f b.size ls ∧ ∃ u1 u2 u5 u7 u8 u9 u10 u11 u12 u13 u14 u15 u16 u17 u18 u19 u20 u21 u22 u23 u24 u25 u26 u27 u28 u29 u30 u31 u32 u33 u34 u35 u36 u37 u38 u39 u40 u41 u42 u43 u44 u45 u46 u47 u48 u6 : Value, a = { tmps := #[.string b, u1, u2, .slice A N c, .int .i64 (f : Int), u5, u6, u7, u8, u9, u10, u11, u12, u13, u14, u15, u16, u17, u18, u19, u20, u21, u22, u23, u24, u25, u26, u27, u28, u29, u30, u31, u32, u33, u34, u35, u36, u37, u38, u39, u40, u41, u42, u43, u44, u45, u46, u47, u48], defers := [] }
def AtL (b : ByteArray) (w : World) (l : Nat) (a : Act) (wr : World) (k : Nat) : Prop :=
  (l = 0 ∧ At0 b w a wr k) ∨ (l = 1 ∧ At1 b w a wr k) ∨ (l = 2 ∧ At2 b w a wr k)
/-- What is handed back: a new row of these lines. -/
def Lines (base : Nat) (w : World) (ls : List Ln) (e : Ending) (w' : World) : Prop :=
  ∃ A c, e = .returned (.slice A ls.length c) ∧ OwnL w' base A ls.length c ls ∧ Below base w w'

theorem scope3 {P : Program} {a : Act} {w : World} {Q : Exit → Act → World → Prop} {c r0 r1 x : Code} (J : Nat → Act → World → Nat → Prop) (m : Nat) (J0 J1 J2 : Act → World → Nat → Prop)
    (hJ : ∀ l a w k, J l a w k → (l = 0 ∧ J0 a w k) ∨ (l = 1 ∧ J1 a w k) ∨ (l = 2 ∧ J2 a w k))
    (h0 : findLabel c 0 = some r0) (h1 : findLabel c 1 = some r1) (h2 : findLabel c 2 = some (.seq .skip x))
    (back : ∀ a w k, J2 a w k → x.wp P (ups J k Q) a w)
    (text : (∀ a w k, J2 a w k → x.wp P (ups J k Q) a w) → ∀ a w k, J0 a w k → r0.wp P (ups J k Q) a w)
    (last : ∀ a w k, J1 a w k → r1.wp P (ups J k Q) a w)
    (first : (∀ a w k, J2 a w k → x.wp P (ups J k Q) a w) → c.wp P (ups J m Q) a w) : (Code.scope c).wp P Q a w := by
  refine wp_scope_ups J m (first back) fun l a w k h => ?_
  rcases hJ l a w k h with ⟨rfl, g⟩ | ⟨rfl, g⟩ | ⟨rfl, g⟩
  · exact ⟨_, h0, text back a w k g⟩
  · exact ⟨_, h1, last a w k g⟩
  · exact ⟨_, h2, wp_seq (wp_skip (back a w k g))⟩

set_option maxHeartbeats 2000000 in
theorem split_big (b : ByteArray) (w : World) (hb : b.size ≤ 4611686018427387904) (hL : (split b.data.toList).length ≤ 1099511627775) : Calls Tryz.prog 50 #[.string b] w (Lines w.heap.size w (split b.data.toList)) := by
  have hlen : b.data.toList.length = b.size := Array.length_toList
  have HLb := Lib.hid hL
  clear hL
  go_enter Tryz.func50, Tryz.ntmps50
  go_wp2
  refine scope3 (AtL b w) (b.size + 1) (At0 b w) (At1 b w) (At2 b w) (fun _ _ _ _ h => h) (by rfl) (by rfl) (by rfl) ?back ?text ?last ?first
  case back =>
    rintro a' wr k ⟨A, N, c, f, j, ls, hS, hk, u1, u2, u7, u8, u9, u10, u11, u12, u13, u14, u15, u16, u17, u18, u19, u20, u21, u22, u23, u24, u25, u26, u27, u28, u29, u30, u31, u32, u33, u34, u35, u36, u37, u38, u39, u40, u41, u42, u43, u44, u45, u46, u47, u48, rfl⟩
    have hcr := lo_le b.data.toList f j hS.inv.1
    have hjb : j ≤ b.size := by have := hS.inv.2.1; omega
    by_cases hlt : j < b.size
    · have q0 : ((j : Int) == (b.size : Int)) = false := by simp; omega
      have hget : b.data.toList[j]'(by omega) = b[j] := rfl
      by_cases h13 : b[j] = 13
      · have q1 : ((b[j].toNat : Int) == 13) = true := by rw [h13]; rfl
        have Hg := Lib.hid h13
        clear h13 hget
        go_wp2_with fail
        go_step3
        refine ⟨k - 1, by omega, .inr (.inr ⟨rfl, A, N, c, f, j + 1, ls, ⟨hS.inv.other (by omega) ?_, hS.own, hS.len, hS.keep⟩, by omega, ?_⟩)⟩
        · show b[j] ≠ 10
          rw [Hg.out]; decide
        · have e : lo b.data.toList f (j + 1) = j := by
            have h1 : cr b.data.toList f (j + 1) = true := by
              rw [cr_snoc hS.inv.1 (by omega)]
              exact decide_eq_true Hg.out
            unfold lo
            rw [if_pos h1, Nat.add_sub_cancel]
          rw [e]
          exact ⟨_, _, _, _, _, _, _, _, _, _, _, _, _, _, _, _, _, _, _, _, _, _, _, _, _, _, _, _, _, _, _, _, _, _, _, _, _, _, _, _, _, _, _, _, rfl⟩
      · have n13 : b[j].toNat ≠ 13 := fun e => h13 (UInt8.toNat_inj.1 e)
        have q1 : ((b[j].toNat : Int) == 13) = false := by simp; omega
        by_cases h10 : b[j] = 10
        · have q2 : ((b[j].toNat : Int) == 10) = true := by rw [h10]; rfl
          have b1 : (0 : Int) ≤ (f : Int) := by omega
          have b2 : (f : Int) ≤ (lo b.data.toList f j : Int) := by omega
          have b3 : (lo b.data.toList f j : Int) ≤ (b.size : Int) := by omega
          have b4 : (lo b.data.toList f j : Int) ≤ (j : Int) + 1 := by omega
          have b5 : (j : Int) + 1 ≤ (b.size : Int) := by omega
          have b6 : (0 : Int) ≤ (lo b.data.toList f j : Int) := by omega
          have Hg := Lib.hid h10
          have HS := Lib.hid hS
          have Hcr := Lib.hid hcr
          have hN46 : N + 1 ≤ 1099511627776 := by have := hS.len; have := hS.inv.le2; have := HLb.out; omega
          clear h10 h13 hget hS hcr
          go_wp2_with fail
          go_region_held3 (fun _ => True) (trivial) ((refine step_append_row rfl (.tmp 24) (.tmp 34) _ _ rfl elem_line rfl rfl ((HS.out.own.alloc _).drew) (src_line_d _ (sl b.data.toList f (lo b.data.toList f j)) (sl b.data.toList (lo b.data.toList f j) (j + 1)) _ (by rw [← ext_sl, ← ext_sl]) _ rfl) hN46 (by have := HS.out.keep.size; simp; omega) ?_; intro A4 c4 w4 ho4 hg4 hat4))
          have HP := Lib.hid (HS.out.line (by omega) Hg.out ho4 hg4)
          go_wp2_with fail
          go_step3
          exact ⟨k - 1, by omega, .inl ⟨rfl, A4, N + 1, c4, j + 1, j + 1, _, HP.out, cr_self _ _, by omega, _, _, _, _, _, _, _, _, _, _, _, _, _, _, _, _, _, _, _, _, _, _, _, _, _, _, _, _, _, _, _, _, _, _, _, _, _, _, _, _, _, _, _, _, _, rfl⟩⟩
        · have n10 : b[j].toNat ≠ 10 := fun e => h10 (UInt8.toNat_inj.1 e)
          have q2 : ((b[j].toNat : Int) == 10) = false := by simp; omega
          have Hg := Lib.hid h10
          have Hf := Lib.hid h13
          clear h10 h13 hget
          go_wp2_with fail
          go_step3
          refine ⟨k - 1, by omega, .inl ⟨rfl, A, N, c, f, j + 1, ls, ⟨hS.inv.other (by omega) Hg.out, hS.own, hS.len, hS.keep⟩, ?_, by omega, _, _, _, _, _, _, _, _, _, _, _, _, _, _, _, _, _, _, _, _, _, _, _, _, _, _, _, _, _, _, _, _, _, _, _, _, _, _, _, _, _, _, _, _, _, rfl⟩⟩
          rw [cr_snoc hS.inv.1 (by omega)]
          exact decide_eq_false Hf.out
    · have hj : j = b.size := by omega
      subst hj
      have q0 : ((b.size : Int) == (b.size : Int)) = true := by simp
      go_wp2_with fail
      go_step3
      exact ⟨0, by omega, .inr (.inl ⟨rfl, A, N, c, f, ls, hS, _, _, _, _, _, _, _, _, _, _, _, _, _, _, _, _, _, _, _, _, _, _, _, _, _, _, _, _, _, _, _, _, _, _, _, _, _, _, _, _, _, _, _, _, _, _, rfl⟩)⟩
  case text =>
    rintro back a' wr k ⟨A, N, c, f, j, ls, hS, hc, hk, u1, u2, u5, u7, u8, u9, u10, u11, u12, u13, u14, u15, u16, u17, u18, u19, u20, u21, u22, u23, u24, u25, u26, u27, u28, u29, u30, u31, u32, u33, u34, u35, u36, u37, u38, u39, u40, u41, u42, u43, u44, u45, u46, u47, u48, rfl⟩
    have e : lo b.data.toList f j = j := by unfold lo; rw [if_neg (by rw [hc]; simp)]
    have HB := Lib.hid back
    have HE := Lib.hid e
    clear back e hc
    go_wp2_with fail
    go_step3
    rename_i K hK
    refine hK _ _ (HB.out _ _ _ ⟨A, N, c, f, j, ls, hS, hk, ?_⟩)
    rw [HE.out]
    exact ⟨_, _, _, _, _, _, _, _, _, _, _, _, _, _, _, _, _, _, _, _, _, _, _, _, _, _, _, _, _, _, _, _, _, _, _, _, _, _, _, _, _, _, _, _, rfl⟩
  case last =>
    rintro a' wr k ⟨A, N, c, f, ls, hS, u1, u2, u5, u7, u8, u9, u10, u11, u12, u13, u14, u15, u16, u17, u18, u19, u20, u21, u22, u23, u24, u25, u26, u27, u28, u29, u30, u31, u32, u33, u34, u35, u36, u37, u38, u39, u40, u41, u42, u43, u44, u45, u46, u47, u48, u6, rfl⟩
    have hl := hS.inv.last hlen.symm
    have hN := hS.len
    rw [hlen] at hl
    by_cases hlt : f < b.size
    · have q0 : (f : Int) < (b.size : Int) := by omega
      rw [if_pos hlt] at hl
      have HL := Lib.hid hl
      have HS := Lib.hid hS
      have HN := Lib.hid hN
      have hN46 : N + 1 ≤ 1099511627776 := by have := hS.inv.le2; have := HLb.out; omega
      clear hl hS hN
      go_wp2_with (at_builtin; refine wpList_append_row rfl (.tmp 41) (.tmp 46) _ _ rfl elem_line rfl rfl (HS.out.own.alloc _) (src_line _ (sl b.data.toList f b.size) [] _ (by rw [← ext_sl]; rfl) _ rfl) hN46 (by have := HS.out.keep.size; simp; omega) ?_; intro A4 c4 w4 ho4 hg4 hat4)
      go_ret
      refine ⟨A4, c4, ?_, ?_, ?_⟩
      · rw [HL.out, List.length_append, ← HN.out]; rfl
      · rw [HL.out, OwnL, lcells_append, List.length_append, ← HN.out]; exact ho4
      · exact (HS.out.keep.alloc HS.out.keep.size _).grown hg4 (by have := HS.out.keep.size; simp; omega) (fun k hk => (HS.out.own.lt k hk).1)
    · have q0 : ¬ (f : Int) < (b.size : Int) := by omega
      rw [if_neg hlt] at hl
      have HL := Lib.hid hl
      have HN := Lib.hid hN
      clear hl hN
      go_wp2_with fail
      go_ret
      refine ⟨A, c, ?_, ?_, hS.keep⟩
      · rw [HL.out, ← HN.out]; rfl
      · rw [HL.out, ← HN.out]; exact hS.own
  case first =>
    intro back
    have HB := Lib.hid back
    clear back
    go_wp2_with fail
    go_step3
    go_wp2_with fail
    go_step3
    rename_i K hK
    exact hK _ _ (HB.out _ _ (b.size + 1) ⟨none, 0, 0, 0, 0, [], ⟨Inv.start _, World.ownsRow_nil _ _ _ _, rfl, Below.refl _ _⟩, rfl, _, _, _, _, _, _, _, _, _, _, _, _, _, _, _, _, _, _, _, _, _, _, _, _, _, _, _, _, _, _, _, _, _, _, _, _, _, _, _, _, _, _, _, _, rfl⟩)
theorem split_any (b : ByteArray) (w : World) (hb : b.size ≤ 274877906944) : Calls Tryz.prog 50 #[.string b] w (Lines w.heap.size w (split b.data.toList)) := by
  refine split_big b w (by omega) ?_
  have h1 := split_le b.data.toList
  have h2 : b.data.toList.length = b.size := Array.length_toList
  omega
end Go.Proofs.YtlcbhooiinaalaaGreatDoor.Li
