/- Parse, the program's and the reference's: what any bytes are read as. Conditions: fewer than 2^46 bytes. -/
import Derived.Test.YtebiinjcegdmpaaPsTree
namespace Go.Proofs.Ytebiinjcegdmpaa.Ps
open Go.RowKit Go.Proofs.Ytebiinjcegdmpaa.Jd Go.Proofs.Ytebiinjcegdmpaa.Cl
set_option maxRecDepth 100000

/-- What bytes are read as: a tree and no error, or an error. -/
def psP (l : List UInt8) : Tr × Int := if (psT 14 1 0 l).2.2.2 ≠ 0 then (.nil, (psT 14 1 0 l).2.2.2) else if (psT 14 1 0 l).2.1 ≠ [] then (.nil, 9) else ((psT 14 1 0 l).1, 0)
/-- What is answered. -/
def PaP (w : World) (p : Tr × Int) (en : Ending) (w' : World) : Prop :=
  ∃ (A : Option Addr) (n c : Nat), en = .returned (.tuple #[.slice A n c, .int .i64 p.2]) ∧ HoldsP w' (fun b => w.heap.size ≤ b ∧ b < w'.heap.size) A n p.1 ∧ n ≤ c ∧ c ≤ maxLen ∧ Below w.heap.size w w'
theorem pap_err {w w' : World} {p : Tr × Int} {e : Int} (hp : p = (.nil, e)) (hb : Below w.heap.size w w') : PaP w p (.returned (.tuple #[.slice none 0 0, .int .i64 e])) w' := by
  subst hp
  exact ⟨none, 0, 0, rfl, rfl, Nat.le_refl _, by decide, hb⟩
theorem tws_below {w w0 w' : World} {base g h : Nat} (a : Tws base g h w0 w') (hb : Below w.heap.size w w0) (hg : w.heap.size ≤ g) (hh : w.heap.size ≤ h) (hbase : w.heap.size ≤ base) : Below w.heap.size w w' :=
  ⟨a.os.trans hb.os, a.tape.trans hb.tape, a.output.trans hb.output, Nat.le_trans hb.size a.size, fun i hi => (a.block i (Nat.lt_of_lt_of_le hi hb.size) (by omega) (by omega) (.inl (by omega))).trans (hb.block i hi)⟩
theorem twb_below {w w0 w' : World} {g h : Nat} (a : Twb w0 w' g h) (hb : Below w.heap.size w w0) (hg : w.heap.size ≤ g) (hh : w.heap.size ≤ h) : Below w.heap.size w w' :=
  ⟨a.os.trans hb.os, a.tape.trans hb.tape, a.output.trans hb.output, Nat.le_trans hb.size a.size, fun i hi => (a.block i (Nat.lt_of_lt_of_le hi hb.size) (by omega) (by omega)).trans (hb.block i hi)⟩

set_option maxHeartbeats 2000000 in
theorem gparse_any (n c : Nat) (A : Option Addr) (l : List UInt8) (w : World) (hs : Sees w w.heap.size A n l) (hn : n ≤ 70368744177664) : Calls Try.prog 10 #[.slice A n c] w (PaP w (psP l)) := by
  have HN := Lib.hid (new_any n c A l w hs hn)
  obtain ⟨kt, l4, m4, e4, hO⟩ : ∃ kt l4 m4 e4, psT 14 1 0 l = (kt, l4, m4, e4) := ⟨_, _, _, _, rfl⟩
  have h9 := psT_9 14 1 0 l
  rw [hO] at h9
  have hP : psP l = if e4 ≠ 0 then (.nil, e4) else if l4 ≠ [] then (.nil, 9) else (kt, 0) := by rw [psP, hO]
  have HT := Lib.hid (fun (W : World) (base g h : Nat) (h1 : Pbx W base g h 0 []) (h2 : Rds W h l 0) (h3 : h < g) (h4 : g < base) => gtree_any 14 1 0 l base g h [] W (by omega) (by omega) rfl (by omega) h1 h2 h3 h4)
  rw [hO] at HT
  rw [show ((1 : Nat) : Int) = 1 from rfl] at HT
  obtain ⟨p, hp⟩ : ∃ p, p = psP l := ⟨_, rfl⟩
  rw [← hp]
  rw [← hp] at hP
  have HP := Lib.hid hP
  clear hO hP hp hs hn
  go_enter Try.func10, Try.ntmps10
  go_wp2_with fail
  (with_reducible refine HN.out.mono ?_)
  rintro e w1 ⟨h, rfl, hh, hr1, hb1⟩
  have hhl := hr1.lt
  have hbx : Pbx (w1.alloc (Obj.cells #[.pointer (some ⟨h, 0, none⟩), .int .i64 0, .slice none 0 0] 77)) (w1.heap.size + 1) w1.heap.size h 0 [] :=
    ⟨_, none, 0, ⟨heap_alloc_new w1 _, rfl, rfl, World.ownsRow_nil _ _ _ _, (by intro e; cases e), by simp⟩, rfl⟩
  have hr2 : Rds (w1.alloc (Obj.cells #[.pointer (some ⟨h, 0, none⟩), .int .i64 0, .slice none 0 0] 77)) h l 0 := Rds.to hr1 (fun b hb => Below.heap_alloc w1 _ b (by omega))
  have hb2 := hb1.alloc hb1.size (Obj.cells #[.pointer (some ⟨h, 0, none⟩), .int .i64 0, .slice none 0 0] 77)
  have hz1 := hb1.size
  have HBX := Lib.hid hbx
  have HR2 := Lib.hid hr2
  have HB2 := Lib.hid hb2
  clear hbx hr1 hr2 hb1 hb2 HN
  go_wp2_with fail
  (with_reducible refine (HT.out _ _ _ _ HBX.out HR2.out hhl (Nat.lt_succ_self _)).mono ?_)
  rintro e w3 ⟨A3, n3, c3, rfl, hr3, hp3, ht3, hok⟩
  simp only at hr3 hok
  have hc3 := hp3.c0
  have hbel := tws_below ht3 HB2.out hz1 hh (by omega)
  have hz3 := ht3.size
  rw [show (w1.alloc (Obj.cells #[.pointer (some ⟨h, 0, none⟩), .int .i64 0, .slice none 0 0] 77)).heap.size = w1.heap.size + 1 by simp] at hz3
  have HB3 := Lib.hid hbel
  have HK := Lib.hid hok
  have HR3 := Lib.hid hr3
  clear hr3 hp3 ht3 hok hbel HBX HR2 HB2 HT
  by_cases he4 : e4 = 0
  · subst he4
    by_cases hl4 : l4 = []
    · have hE := end_any h l4 0 w3 HR3.out
      rw [if_neg (fun k => k.2 hl4)] at hE
      have HE := Lib.hid hE
      have hp : p = (kt, 0) := by rw [HP.out, if_neg (by simp), if_neg (by simpa using hl4)]
      have HPp := Lib.hid hp
      clear hE hl4 hp
      go_wp2_with fail
      (with_reducible refine HE.out.mono ?_)
      rintro e w4 ⟨rfl, rfl⟩
      go_wp2_with fail
      go_ret2
      obtain ⟨⟨hk1, hk2, hk3⟩, _⟩ := HK.out (by first | trivial | rfl)
      rw [HPp.out]
      exact ⟨A3, n3, c3, rfl, hk1.more (fun b hb => ⟨by have := hb.1; simp at this; omega, hb.2.1⟩), hk2, hk3, HB3.out⟩
    · have hE := end_any h l4 0 w3 HR3.out
      rw [if_pos ⟨rfl, hl4⟩] at hE
      have HE := Lib.hid hE
      have hp : p = (.nil, 9) := by rw [HP.out, if_neg (by simp), if_pos (by simpa using hl4)]
      have HPp := Lib.hid hp
      clear hE hl4 hp
      go_wp2_with fail
      (with_reducible refine HE.out.mono ?_)
      rintro e w4 ⟨rfl, rfl⟩
      go_wp2_with fail
      go_ret2
      exact pap_err HPp.out HB3.out
  · have HE := Lib.hid (end_some h l4 e4 w3 HR3.out he4)
    have hp : p = (.nil, e4) := by rw [HP.out, if_pos he4]
    have HPp := Lib.hid hp
    have heb : (e4 != 0) = true := by simpa using he4
    clear he4 hp
    go_wp2_with fail
    (with_reducible refine HE.out.mono ?_)
    rintro e w4 ⟨rfl, rfl⟩
    go_wp2_with fail
    go_ret2
    exact pap_err HPp.out HB3.out

set_option maxHeartbeats 2000000 in
theorem rparse_any (n c : Nat) (A : Option Addr) (l : List UInt8) (w : World) (hs : Sees w w.heap.size A n l) (hnc : n ≤ c) (hcm : c ≤ maxLen) : Calls Try.prog 17 #[.slice A n c] w (PaP w (psP l)) := by
  have HN := Lib.hid (rnew_any n c A l w hs hnc hcm)
  obtain ⟨kt, l4, m4, e4, hO⟩ : ∃ kt l4 m4 e4, psT 14 1 0 l = (kt, l4, m4, e4) := ⟨_, _, _, _, rfl⟩
  have hP : psP l = if e4 ≠ 0 then (.nil, e4) else if l4 ≠ [] then (.nil, 9) else (kt, 0) := by rw [psP, hO]
  have HT := Lib.hid (fun (W : World) (g h : Nat) (D : Dat) (h1 : Prs W g h 0 0) (h2 : Rfs D W h l 0) (h3 : h < g) => ptree_any 14 1 0 0 l D g h W (by omega) (by omega) (by omega) h1 h2 h3)
  rw [hO] at HT
  rw [show ((1 : Nat) : Int) = 1 from rfl] at HT
  obtain ⟨p, hp⟩ : ∃ p, p = psP l := ⟨_, rfl⟩
  rw [← hp]
  rw [← hp] at hP
  have HP := Lib.hid hP
  obtain ⟨D, hD⟩ : ∃ D : Dat, D = ⟨A, n, c, l⟩ := ⟨_, rfl⟩
  rw [← hD] at HN
  clear hO hP hp hs hnc hcm hD
  go_enter Try.func17, Try.ntmps17
  go_wp2_with fail
  (with_reducible refine HN.out.mono ?_)
  rintro e w1 ⟨h, rfl, hh, hr1, hb1⟩
  have hhl := Rfs.lt' hr1
  have hbx : Prs (w1.alloc (Obj.cells #[.pointer (some ⟨h, 0, none⟩), .int .i64 0, .int .i64 0] 89)) w1.heap.size h 0 0 := heap_alloc_new w1 _
  have hr2 : Rfs D (w1.alloc (Obj.cells #[.pointer (some ⟨h, 0, none⟩), .int .i64 0, .int .i64 0] 89)) h l 0 := Rfs.to hr1 (fun b hb => Below.heap_alloc w1 _ b (by omega))
  have hb2 := hb1.alloc hb1.size (Obj.cells #[.pointer (some ⟨h, 0, none⟩), .int .i64 0, .int .i64 0] 89)
  have hz1 := hb1.size
  have HBX := Lib.hid hbx
  have HR2 := Lib.hid hr2
  have HB2 := Lib.hid hb2
  clear hbx hr1 hr2 hb1 hb2 HN
  go_wp2_with fail
  (with_reducible refine (HT.out _ _ _ _ HBX.out HR2.out hhl).mono ?_)
  rintro e w3 ⟨A3, n3, c3, rfl, hok, hp3, hr3, ht3⟩
  simp only at hr3 hok hp3
  have hc3 := hp3.c0
  have hbel := twb_below ht3 HB2.out hz1 hh
  have HB3 := Lib.hid hbel
  have HK := Lib.hid hok
  have HR3 := Lib.hid hr3
  have HE := Lib.hid (rend_any h l4 e4 w3 hr3)
  clear hr3 hp3 ht3 hok hbel HBX HR2 HB2 HT
  obtain ⟨x, hx⟩ : ∃ x : Int, x = if e4 = 0 ∧ l4 ≠ [] then 9 else e4 := ⟨_, rfl⟩
  rw [← hx] at HE
  have hgr : ∀ w4, w3.grownBy w4 (some h) → Below w.heap.size w w4 := fun w4 hg => HB3.out.trans ((Below.refl w.heap.size w3).grown hg HB3.out.size (fun q hq => by injection hq with hq; omega))
  have Hgr := Lib.hid hgr
  have Hx := Lib.hid hx
  clear hgr hx
  by_cases hx0 : x = 0
  · have h4 : e4 = 0 ∧ l4 = [] := by
      have := Hx.out
      rw [hx0] at this
      by_cases h1 : e4 = 0 ∧ l4 ≠ []
      · rw [if_pos h1] at this; cases this
      · rw [if_neg h1] at this
        exact ⟨this.symm, Classical.byContradiction fun h2 => h1 ⟨this.symm, h2⟩⟩
    have hp : p = (kt, 0) := by rw [HP.out, if_neg (by simp [h4.1]), if_neg (by simp [h4.2])]
    have HPp := Lib.hid hp
    obtain ⟨hk1, hk2, hk3⟩ := HK.out h4.1
    have Hk1 := Lib.hid hk1
    have Hcap := Lib.hid (⟨hk2, hk3⟩ : n3 ≤ c3 ∧ c3 ≤ maxLen)
    subst hx0
    clear h4 hp hk1 hk2 hk3 HK
    go_wp2_with fail
    (with_reducible refine HE.out.mono ?_)
    rintro e w4 ⟨rfl, _, hg4⟩
    have HG4 := Lib.hid hg4
    clear hg4
    go_wp2_with fail
    go_ret2
    rw [HPp.out]
    refine ⟨A3, n3, c3, rfl, ?_, Hcap.out.1, Hcap.out.2, Hgr.out _ HG4.out⟩
    refine (Hk1.out.keep (w' := w4) (fun b o hb => World.cell?_of_block (a := ⟨b, o, none⟩) (HG4.out.block b hb.2 (fun e => by injection e with e; have := hb.1; simp at this; omega)))).more (fun b hb => ⟨by have := hb.1; simp at this; omega, Nat.lt_of_lt_of_le hb.2 HG4.out.size⟩)
  · have hp : p = (.nil, x) := by
      rw [HP.out]
      by_cases h1 : e4 = 0
      · have hl : l4 ≠ [] := fun hl => hx0 (by rw [Hx.out, if_neg (fun k => k.2 hl)]; exact h1)
        rw [if_neg (by simp [h1]), if_pos hl, Hx.out, if_pos ⟨h1, hl⟩]
      · rw [if_pos h1, Hx.out, if_neg (fun k => h1 k.1)]
    have HPp := Lib.hid hp
    have hxb : (x != 0) = true := by simpa using hx0
    clear hp hx0 HK
    go_wp2_with fail
    (with_reducible refine HE.out.mono ?_)
    rintro e w4 ⟨rfl, _, hg4⟩
    have HG4 := Lib.hid hg4
    clear hg4
    go_wp2_with fail
    go_ret2
    exact pap_err HPp.out (Hgr.out _ HG4.out)
end Go.Proofs.Ytebiinjcegdmpaa.Ps
