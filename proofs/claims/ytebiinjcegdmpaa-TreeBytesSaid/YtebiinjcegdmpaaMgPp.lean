/- The program's parser: its box, its frame, its count and its names. Conditions: at most 400 edges so far. The program's parser: a name; a row of edges of one's own beside the parser's. Conditions: at most 400 edges so far. -/
import Derived.Test.YtebiinjcegdmpaaPsRef
import Derived.Test.YtebiinjcegdmpaaPthMath
import Derived.Test.YtebiinjcegdmpaaJudge
import Derived.Deep.RegionHeld3
namespace Go.Proofs.Ytebiinjcegdmpaa.Ps
open Go.RowKit Go.Proofs.Ytebiinjcegdmpaa.Jd Go.Proofs.Ytebiinjcegdmpaa.Cl
set_option maxRecDepth 100000

theorem own_same {w w' : World} {base size n : Nat} {e : TypeId} {v : Value} {xs : List Value} (h : w.ownsRow base e size v n xs) (hs : ∀ q, v.ownBlock = some q → w'.heap[q]? = w.heap[q]?) : w'.ownsRow base e size v n xs := by
  refine ⟨h.1, ?_⟩
  rcases h.2 with hn | ⟨g', cap, cur, e, hbb, hgg, rest⟩
  · exact .inl hn
  · exact .inr ⟨g', cap, cur, e, hbb, (hs g' (by rw [e]; rfl)).trans hgg, rest⟩
theorem own_at {w : World} {base size n : Nat} {e : TypeId} {v : Value} {xs : List Value} (h : w.ownsRow base e size v n xs) {q : Nat} (hq : v.ownBlock = some q) : base ≤ q ∧ ∃ cur, w.heap[q]? = some (.cells cur e (0, 0)) := by
  rcases h.2 with ⟨hn, _⟩ | ⟨g', cap, cur, e, hbb, hgg, rest⟩
  · rw [hn] at hq; cases hq
  · rw [e] at hq
    obtain rfl : g' = q := by injection hq
    exact ⟨hbb, cur, hgg⟩
/-- No row of strings. -/
def NotS (w : World) (b : Nat) : Prop := ∀ cu x, w.heap[b]? ≠ some (.cells cu 9 x)
theorem NotS.to {w w' : World} {b : Nat} (h : NotS w b) (e : w'.heap[b]? = w.heap[b]?) : NotS w' b := fun cu x k => h cu x (e.symm.trans k)
theorem notS_cells {w : World} {b : Nat} {cu : Array Value} {E : TypeId} {x : Nat × Nat} (h : w.heap[b]? = some (.cells cu E x)) (hE : E ≠ 9) : NotS w b := fun cu' x' k => by
  rw [h] at k
  injection k with k
  injection k with k1 k2
  exact hE k2
/-- What lies as it lay: all but the two boxes that is older than base or no row of strings. -/
structure Tws (base g h : Nat) (w w' : World) : Prop where
  os : w'.os = w.os
  tape : w'.tape = w.tape
  output : w'.output = w.output
  size : w.heap.size ≤ w'.heap.size
  block : ∀ b, b < w.heap.size → b ≠ g → b ≠ h → (b < base ∨ NotS w b) → w'.heap[b]? = w.heap[b]?
section
variable {base g h : Nat} {w w' w'' : World}
theorem Tws.refl (base g h : Nat) (w : World) : Tws base g h w w := ⟨rfl, rfl, rfl, Nat.le_refl _, fun _ _ _ _ _ => rfl⟩
theorem Tws.trans (a : Tws base g h w w') (b : Tws base g h w' w'') : Tws base g h w w'' :=
  ⟨b.os.trans a.os, b.tape.trans a.tape, b.output.trans a.output, Nat.le_trans a.size b.size, fun k hk h1 h2 h3 =>
    have e := a.block k hk h1 h2 h3
    (b.block k (Nat.lt_of_lt_of_le hk a.size) h1 h2 (h3.imp id (fun n => n.to e))).trans e⟩
theorem Tws.read (a : Tws base g h w w') (b : w'.grownBy w'' (some h)) : Tws base g h w w'' :=
  a.trans ⟨b.os, b.tape, b.output, b.size, fun k hk _ h2 _ => b.block k hk (fun e => h2 (by injection e))⟩
theorem Tws.alloc (a : Tws base g h w w') (o : Obj) : Tws base g h w (w'.alloc o) :=
  a.trans ⟨rfl, rfl, rfl, by simp, fun k hk _ _ _ => Below.heap_alloc w' o k hk⟩
theorem Tws.drew (a : Tws base g h w w') : Tws base g h w w'.drew := ⟨a.os, a.tape, a.output, a.size, a.block⟩
theorem Tws.chg {row : Option Nat} (a : Tws base g h w w') (b : Chg g row w' w'') (hr : ∀ q, row = some q → base ≤ q ∧ ¬ NotS w' q) : Tws base g h w w'' :=
  a.trans ⟨b.os, b.tape, b.output, b.size, fun k hk h1 _ h3 => b.block k hk h1 (fun e => by
    obtain ⟨r1, r2⟩ := hr k e.symm
    rcases h3 with h3 | h3
    · omega
    · exact r2 h3)⟩
/-- A row of one's own that is newer than what w has turns. -/
theorem Tws.own (a : Tws base g h w w') {row : Option Nat} (hr : ∀ k, row = some k → w.heap.size ≤ k) (b : w'.grownBy w'' row) : Tws base g h w w'' :=
  ⟨b.os.trans a.os, b.tape.trans a.tape, b.output.trans a.output, Nat.le_trans a.size b.size, fun k hk h1 h2 h3 => (b.block k (Nat.lt_of_lt_of_le hk a.size) (fun e => by have := hr k e.symm; omega)).trans (a.block k hk h1 h2 h3)⟩
end
/-- The parser's box: so many edges told, these names kept. -/
def Pbx (w : World) (base g h m : Nat) (L : List ByteArray) : Prop := ∃ cur A c, Jdg w base g 1 77 cur m L A c ∧ cur[0]? = some (.pointer (some ⟨h, 0, none⟩))
/-- The parser's box, behind an error. -/
def Pbe (w : World) (g h : Nat) : Prop := ∃ cur E x, w.heap[g]? = some (.cells cur E x) ∧ cur[0]? = some (.pointer (some ⟨h, 0, none⟩))
section
variable {w w' : World} {base g h m : Nat} {L : List ByteArray} {l : List UInt8} {e : Int}
theorem Pbx.pbe (k : Pbx w base g h m L) : Pbe w g h := by
  obtain ⟨cur, A, c, j, e⟩ := k
  exact ⟨cur, _, _, j.heap, e⟩
theorem Pbe.c0 (k : Pbe w g h) : w.cell? ⟨g, 0, none⟩ = some (.pointer (some ⟨h, 0, none⟩)) := by
  obtain ⟨cur, E, x, k, e⟩ := k
  rw [cell_of_row w g 0 cur E x k]
  exact e
theorem Pbe.lt (k : Pbe w g h) : g < w.heap.size := by
  obtain ⟨cur, E, x, k, e⟩ := k
  exact (Array.getElem?_eq_some_iff.1 k).1
theorem Pbe.same (k : Pbe w g h) (hs : w'.heap[g]? = w.heap[g]?) : Pbe w' g h := by
  obtain ⟨cur, E, x, k, e⟩ := k
  exact ⟨cur, E, x, hs.trans k, e⟩
theorem Pbx.to (k : Pbx w base g h m L) (hz : w.heap.size ≤ w'.heap.size) (hs : ∀ b, (b = g ∨ (base ≤ b ∧ ¬ NotS w b)) → w'.heap[b]? = w.heap[b]?) : Pbx w' base g h m L := by
  obtain ⟨cur, A, c, j, e⟩ := k
  refine ⟨cur, A, c, ⟨(hs g (.inl rfl)).trans j.heap, j.told, j.names, own_same j.row (fun q hq => hs q (.inr ?_)), j.far, Nat.le_trans j.le hz⟩, e⟩
  obtain ⟨h1, cu, h2⟩ := own_at j.row hq
  exact ⟨h1, fun n => n cu _ h2⟩
theorem Pbx.base_le (k : Pbx w base g h m L) : base ≤ w.heap.size := by
  obtain ⟨cur, A, c, j, e⟩ := k
  exact j.le
theorem Rds.notS (k : Rds w h l e) : NotS w h := by
  obtain ⟨A, n, c, k⟩ := k
  exact notS_cells k.row (by decide)
theorem Rds.to (k : Rds w h l e) (hs : ∀ b, b ≤ h → w'.heap[b]? = w.heap[b]?) : Rds w' h l e := by
  obtain ⟨A, n, c, k⟩ := k
  exact ⟨A, n, c, (hs h (Nat.le_refl _)).trans k.row, k.sees.keep fun q hq => World.cell?_of_block (hs q.block (Nat.le_of_lt hq)), k.cap⟩
theorem Pbx.read (k : Pbx w base g h m L) (r : Rds w h l e) (hne : h < g) (b : w.grownBy w' (some h)) : Pbx w' base g h m L :=
  k.to b.size (fun q hq => by
    by_cases hl : q < w.heap.size
    · refine b.block q hl (fun e => ?_)
      obtain rfl : q = h := by injection e
      rcases hq with hq | hq
      · omega
      · exact hq.2 (Rds.notS r)
    · rcases hq with rfl | hq
      · exact absurd k.pbe.lt hl
      · exact absurd (fun cu x e => by rw [Array.getElem?_eq_none (by omega)] at e; cases e) hq.2)
theorem Pbe.read (k : Pbe w g h) (hne : h < g) (b : w.grownBy w' (some h)) : Pbe w' g h := k.same (b.block g k.lt (fun e => by injection e; omega))
end
theorem Rds.drew {w : World} {h : Nat} {l : List UInt8} {e : Int} (k : Rds w h l e) : Rds w.drew h l e := Rds.to k (fun _ _ => rfl)
theorem Pbx.drew {w : World} {base g h m : Nat} {L : List ByteArray} (k : Pbx w base g h m L) : Pbx w.drew base g h m L := k.to (Nat.le_refl _) (fun _ _ => rfl)
theorem Pbe.drew {w : World} {g h : Nat} (k : Pbe w g h) : Pbe w.drew g h := k.same rfl
theorem txStep_len (l : List UInt8) (e : Int) : (txStep l e).1.length ≤ 65535 := by
  have h := rdStep_lt 2 l e
  unfold txStep txNext
  split
  · simp
  · split
    · simp
    · simp only [List.length_take]
      omega
theorem i64_or_nat (a b : Nat) (ha : a < 65536) (hb : b < 65536) : bits .or .i64 (a : Int) (b : Int) = ((a ||| b : Nat) : Int) := by
  have hx : a ||| b < 2 ^ 16 := Nat.or_lt_two_pow (by omega) (by omega)
  show IntKind.i64.wrap ((BitVec.ofInt 64 (a : Int) ||| BitVec.ofInt 64 (b : Int)).toNat : Int) = _
  rw [BitVec.toNat_or, ofInt_u64 a (by omega), ofInt_u64 b (by omega)]
  exact IntWalk.i64_in _ (by omega)
theorem lo_or (a b : Nat) (ha : a < 256) (hb : b < 256) : bits .or .i64 (a : Int) ((b : Int) * 256) = ((a + 256 * b : Nat) : Int) := by
  have e : ((b : Int) * 256) = ((b * 2 ^ 8 : Nat) : Int) := by omega
  rw [e, i64_or_nat _ _ (by omega) (by omega)]
  congr 1
  rw [← Nat.shiftLeft_eq, Nat.or_comm, ← Nat.shiftLeft_add_eq_or_of_lt (by omega), Nat.shiftLeft_eq]
  omega

/-- What is read of two bytes. -/
def CnP (w : World) (base g h m : Nat) (L : List ByteArray) (n : Nat) (l : List UInt8) (e : Int) (en : Ending) (w' : World) : Prop :=
  en = .returned (.int .i64 n) ∧ Rds w' h l e ∧ Pbx w' base g h m L ∧ Tws base g h w w'
set_option maxHeartbeats 2000000 in
theorem count_any (base g h m : Nat) (l : List UInt8) (L : List ByteArray) (w : World) (hp : Pbx w base g h m L) (hr : Rds w h l 0) (hgh : h < g) :
    Calls Try.prog 60 #[.pointer (some ⟨g, 0, none⟩)] w (CnP w base g h m L ((rdStep 1 l 0).1 + 256 * (rdStep 1 (rdStep 1 l 0).2.1 (rdStep 1 l 0).2.2).1) (rdStep 1 (rdStep 1 l 0).2.1 (rdStep 1 l 0).2.2).2.1 (rdStep 1 (rdStep 1 l 0).2.1 (rdStep 1 l 0).2.2).2.2) := by
  obtain ⟨v0, l1, e1, hv0⟩ : ∃ v0 l1 e1, rdStep 1 l 0 = (v0, l1, e1) := ⟨_, _, _, rfl⟩
  obtain ⟨v1, l2, e2, hv1⟩ : ∃ v1 l2 e2, rdStep 1 l1 e1 = (v1, l2, e2) := ⟨_, _, _, rfl⟩
  have hb0 : v0 < 256 := by have := rdStep_lt 1 l 0; rw [hv0] at this; exact this
  have hb1 : v1 < 256 := by have := rdStep_lt 1 l1 e1; rw [hv1] at this; exact this
  have hR0 := byte_any h l 0 w hr
  rw [hv0] at hR0
  have hR1 := fun (W : World) (hW : Rds W h l1 e1) => byte_any h l1 e1 W hW
  rw [hv1] at hR1
  rw [hv0]
  simp only
  rw [hv1]
  have HR0 := Lib.hid hR0
  have HR1 := Lib.hid hR1
  have hc0 := hp.pbe.c0
  have HP := Lib.hid hp
  have HR := Lib.hid hr
  have hor := lo_or v0 v1 hb0 hb1
  have hw1 : IntKind.i64.wrap ((v1 : Int) * 256) = (v1 : Int) * 256 := IntWalk.i64_in _ (by omega)
  clear hv0 hv1 hR0 hR1 hp hr
  go_enter Try.func60, Try.ntmps60
  go_wp2_with fail
  (with_reducible refine HR0.out.mono ?_)
  rintro e w1 ⟨rfl, hr1, hg1⟩
  have hp1 := HP.out.read HR.out hgh hg1
  have ht1 := (Tws.refl base g h w).read hg1
  have hc1 := hp1.pbe.c0
  have HQ1 := Lib.hid hp1
  have HS1 : Hid (Rds w1 h l1 e1) := Lib.hid hr1
  have HT1 := Lib.hid ht1
  clear hp1 hr1 hg1 HP HR0 hc0 HR ht1
  go_wp2_with fail
  (with_reducible refine (HR1.out w1 HS1.out).mono ?_)
  rintro e w2 ⟨rfl, hr2, hg2⟩
  have hp2 := HQ1.out.read HS1.out hgh hg2
  have ht2 := HT1.out.read hg2
  have HQ2 := Lib.hid hp2
  have HS2 : Hid (Rds w2 h l2 e2) := Lib.hid hr2
  have HT2 := Lib.hid ht2
  clear hp2 hr2 hg2 ht2 HQ1 HS1 HT1 hc1
  go_wp2_with fail
  go_ret
  exact ⟨rfl, HS2.out, HQ2.out, HT2.out⟩

set_option maxHeartbeats 1000000 in
theorem fine_yes (g h : Nat) (l : List UInt8) (w : World) (hp : Pbe w g h) (hr : Rds w h l 0) : Calls Try.prog 86 #[.pointer (some ⟨g, 0, none⟩)] w fun en w' => en = .returned (.bool true) ∧ w = w' := by
  have hc0 := hp.c0
  have hE := end_any h l 0 w hr
  by_cases hl : l = []
  · rw [if_neg (fun k => k.2 hl)] at hE
    have HE := Lib.hid hE
    clear hE hr hp hl
    go_enter Try.func86, Try.ntmps86
    go_wp2_with fail
    (with_reducible refine HE.out.mono ?_)
    rintro e w1 ⟨rfl, rfl⟩
    go_wp2_with fail
    go_ret
    exact ⟨rfl, rfl⟩
  · rw [if_pos ⟨rfl, hl⟩] at hE
    have HE := Lib.hid hE
    clear hE hr hp hl
    go_enter Try.func86, Try.ntmps86
    go_wp2_with fail
    (with_reducible refine HE.out.mono ?_)
    rintro e w1 ⟨rfl, rfl⟩
    go_wp2_with fail
    go_ret
    exact ⟨rfl, rfl⟩
set_option maxHeartbeats 1000000 in
theorem fine_no (g h : Nat) (l : List UInt8) (e : Int) (w : World) (hp : Pbe w g h) (hr : Rds w h l e) (he : e ≠ 0) (he9 : e ≠ 9) : Calls Try.prog 86 #[.pointer (some ⟨g, 0, none⟩)] w fun en w' => en = .returned (.bool false) ∧ w = w' := by
  have hc0 := hp.c0
  have HE := Lib.hid (end_some h l e w hr he)
  have hb0 : (e == 0) = false := by simpa using he
  have hb9 : (e == 9) = false := by simpa using he9
  clear hr hp he he9
  go_enter Try.func86, Try.ntmps86
  go_wp2_with fail
  (with_reducible refine HE.out.mono ?_)
  rintro en w1 ⟨rfl, rfl⟩
  go_wp2_with fail
  go_ret
  exact ⟨rfl, rfl⟩
end Go.Proofs.Ytebiinjcegdmpaa.Ps

namespace Go.Proofs.Ytebiinjcegdmpaa.Ps
open Go.RowKit Go.Proofs.Ytebiinjcegdmpaa.Jd Go.Proofs.Ytebiinjcegdmpaa.Cl
set_option maxRecDepth 100000

theorem rdStep_9 (k : Nat) (l : List UInt8) (e : Int) (h : e ≠ 9) : (rdStep k l e).2.2 ≠ 9 := by
  unfold rdStep
  split
  · exact h
  · split <;> simp
theorem txStep_9 (l : List UInt8) (e : Int) (h : e ≠ 9) : (txStep l e).2.2 ≠ 9 := by
  have h2 := rdStep_9 2 l e h
  unfold txStep txNext
  split
  · exact h2
  · split <;> simp
set_option maxHeartbeats 1000000 in
theorem name_err (g h d : Nat) (l l3 tx : List UInt8) (e ex : Int) (w : World) (hp : Pbe w g h) (hr : Rds w h l e) (htx : txStep l e = (tx, l3, ex)) (hex : ex ≠ 0) (hex9 : ex ≠ 9) (hgh : h < g) :
    Calls Try.prog 61 #[.pointer (some ⟨g, 0, none⟩), .int .i64 (d : Nat)] w fun en w' => en = .returned (.tuple #[.string ⟨#[]⟩, .bool false]) ∧ Rds w' h l3 ex ∧ Pbe w' g h ∧ w.grownBy w' (some h) := by
  have hT := rdText_any h l e w hr
  rw [htx] at hT
  have HT := Lib.hid hT
  have hc0 := hp.c0
  have HP := Lib.hid hp
  have HF := Lib.hid (fun (W : World) (h1 : Pbe W g h) (h2 : Rds W h l3 ex) => fine_no g h l3 ex W h1 h2 hex hex9)
  clear hT htx hr hp hex hex9
  go_enter Try.func61, Try.ntmps61
  go_wp2_with fail
  (with_reducible refine HT.out.mono ?_)
  rintro e w1 ⟨rfl, hr1, hg1⟩
  have hp1 := HP.out.read hgh hg1
  have hr1' : Rds w1 h l3 ex := hr1
  go_wp2_with fail
  (with_reducible refine (HF.out w1 hp1 hr1').mono ?_)
  rintro e w2 ⟨rfl, rfl⟩
  go_wp2_with fail
  go_ret2
  exact ⟨rfl, hr1', hp1, hg1⟩

/-- What the judge leaves. -/
theorem told_out {w w' : World} {base g h m d c : Nat} {cur : Array Value} {L : List ByteArray} {A : Option Addr} {s : ByteArray} (hJ : Jdg w base g 1 77 cur m L A c) (hc : cur[0]? = some (.pointer (some ⟨h, 0, none⟩))) (hgh : h < g) (hgb : g < base)
    (ht : Jd.Told w base g 1 77 cur m L d s (Value.slice A L.length c).ownBlock w') :
    (judgeE m L d s = 0 → Pbx w' base g h (m + 1) (judgeL L d s)) ∧ Pbe w' g h ∧ Tws base g h w w' ∧ (∀ l e, Rds w h l e → Rds w' h l e) := by
  obtain ⟨cur', L', A', c', hJ', hL, hcu, hsz, hch⟩ := ht
  have hc' : cur'[0]? = some (.pointer (some ⟨h, 0, none⟩)) := (hcu 0 (by omega) (by omega)).trans hc
  refine ⟨fun h0 => ⟨cur', A', c', by rw [← hL h0]; exact hJ', hc'⟩, ⟨cur', _, _, hJ'.heap, hc'⟩, (Tws.refl base g h w).chg hch (fun q hq => ?_), fun l e hr => Rds.to hr (fun b hb => hch.block b ?_ (by omega) (fun k => ?_))⟩
  · obtain ⟨h1, cu, h2⟩ := own_at hJ.row hq
    exact ⟨h1, fun n => n cu _ h2⟩
  · have := hr.lt; omega
  · have := (own_at hJ.row k.symm).1; omega

/-- How a name ends. -/
def NmP (w : World) (base g h m d : Nat) (L : List ByteArray) (s : ByteArray) (l : List UInt8) (x : Nat) (en : Ending) (w' : World) : Prop :=
  en = .returned (.tuple #[.string s, .bool (decide (x = 0))]) ∧ Rds w' h l (x : Nat) ∧ Pbe w' g h ∧ Tws base g h w w' ∧ (x = 0 → Pbx w' base g h (m + 1) (judgeL L d s))
set_option maxHeartbeats 4000000 in
theorem name_any (base g h m d : Nat) (L : List ByteArray) (l l3 tx : List UInt8) (s : ByteArray) (x : Nat) (w : World) (hp : Pbx w base g h m L) (hr : Rds w h l 0) (htx : txStep l 0 = (tx, l3, 0)) (hs : s = ⟨tx.toArray⟩) (hx : x = judgeE m L d s) (hm : m ≤ 400) (hd1 : 1 ≤ d) (hd2 : d ≤ L.length + 1) (hgh : h < g) (hgb : g < base) :
    Calls Try.prog 61 #[.pointer (some ⟨g, 0, none⟩), .int .i64 (d : Nat)] w (NmP w base g h m d L s l3 x) := by
  have hT := rdText_any h l 0 w hr
  rw [htx] at hT
  simp only at hT
  rw [← hs] at hT
  have hsz : s.size ≤ 140737488351232 := by
    have := txStep_len l 0
    rw [htx] at this
    rw [hs]
    have e : (⟨tx.toArray⟩ : ByteArray).size = tx.length := by simp [ByteArray.size]
    simp only at this
    omega
  have hx9 : (x : Int) ≠ 9 := by
    rw [hx]
    unfold judgeE
    repeat' split
    all_goals omega
  have HT := Lib.hid hT
  have hc0 := hp.pbe.c0
  have HP := Lib.hid hp
  have HR := Lib.hid hr
  have HF0 := Lib.hid (fun (W : World) (h1 : Pbe W g h) (h2 : Rds W h l3 0) => fine_yes g h l3 W h1 h2)
  have HFx := Lib.hid (fun (W : World) (h1 : Pbe W g h) (h2 : Rds W h l3 x) (h3 : (x : Int) ≠ 0) => fine_no g h l3 x W h1 h2 h3 hx9)
  have HFail := Lib.hid (fun (W : World) (h2 : Rds W h l3 0) => fail_first h l3 (x : Nat) W h2)
  have HO : Hid (∀ (W : World) (hq : Pbx W base g h m L), Calls Try.prog 41 #[.pointer (some ⟨g, 1, none⟩), .int .i64 (d : Nat), .string s] W fun e w' => e = .returned (.int .i64 (x : Nat)) ∧ Pbe w' g h ∧ Tws base g h W w' ∧ (∀ l e, Rds W h l e → Rds w' h l e) ∧ (x = 0 → Pbx w' base g h (m + 1) (judgeL L d s))) := by
    refine Lib.hid fun W hq => ?_
    obtain ⟨cur, A, c, hJ, hc⟩ := hq
    refine (edge_any W base g 1 m c d _ cur L A s hJ hm hd1 hd2 hsz).mono ?_
    rintro e w' ⟨rfl, ht⟩
    obtain ⟨t1, t2, t3, t4⟩ := told_out hJ hc hgh hgb ht
    exact ⟨by rw [hx], t2, t3, t4, fun h0 => t1 (by rw [← hx]; exact h0)⟩
  clear hT htx hr hp hs hsz hx
  go_enter Try.func61, Try.ntmps61
  go_wp2_with fail
  (with_reducible refine HT.out.mono ?_)
  rintro e w1 ⟨rfl, hr1, hg1⟩
  have hp1 := HP.out.read HR.out hgh hg1
  have hr1' : Rds w1 h l3 0 := hr1
  have HP1 := Lib.hid hp1
  have HR1 := Lib.hid hr1'
  have HT1 := Lib.hid ((Tws.refl base g h w).read hg1)
  have hc1 := hp1.pbe.c0
  clear hr1 hg1 hp1 hr1' HP HR HT hc0
  go_wp2_with fail
  (with_reducible refine (HF0.out w1 HP1.out.pbe HR1.out).mono ?_)
  rintro e w2 ⟨rfl, rfl⟩
  have hcd : w1.drew.cell? ⟨g, 0, none⟩ = some (.pointer (some ⟨h, 0, none⟩)) := hc1
  have HPd := Lib.hid HP1.out.drew
  have HRd := Lib.hid (Rds.drew HR1.out)
  have HTd := Lib.hid HT1.out.drew
  go_wp2_with fail
  go_region_held3 (fun W => W.cell? ⟨g, 0, none⟩ = some (.pointer (some ⟨h, 0, none⟩)))
    (first | exact hcd | exact hc1 | exact hc3 | exact hc4)
    (first
    | (go_at_call 41; (with_reducible refine (HO.out _ HPd.out).mono ?_); rintro e w3 ⟨rfl, hb3, ht3, hr3, hx3⟩; have hc3 := hb3.c0; have HB3 := Lib.hid hb3; have HT3 := Lib.hid (HTd.out.trans ht3); have HR3 := Lib.hid (hr3 _ _ HRd.out); have HX3 := Lib.hid hx3; clear hb3 ht3 hr3 hx3)
    | (go_at_call 87; (with_reducible refine (HFail.out _ HR3.out).mono ?_); rintro e w4 ⟨rfl, hr4, hg4⟩; have hb4 := HB3.out.read hgh hg4; have hc4 := hb4.c0; have HB4 := Lib.hid hb4; have HT4 := Lib.hid (HT3.out.read hg4); have HR4 : Hid (Rds w4 h l3 x) := Lib.hid hr4; have HX4 := Lib.hid (fun (h0 : x = 0) => (HX3.out h0).read HR3.out hgh hg4); clear hr4 hg4 hb4))
  all_goals
    by_cases hx0 : x = 0
    · have hr4 : Rds w4 h l3 0 := by have := HR4.out; rw [hx0] at this; exact this
      have HR5 := Lib.hid hr4
      have HX0 := Lib.hid hx0
      clear hx0 hr4
      go_wp2_with fail
      (with_reducible refine (HF0.out w4 HB4.out HR5.out).mono ?_)
      rintro e w5 ⟨rfl, rfl⟩
      go_wp2_with fail
      go_ret2
      exact ⟨by rw [HX0.out]; rfl, HR4.out, HB4.out, HT4.out, HX4.out⟩
    · have HX0 := Lib.hid hx0
      clear hx0
      go_wp2_with fail
      (with_reducible refine (HFx.out w4 HB4.out HR4.out (by have := HX0.out; omega)).mono ?_)
      rintro e w5 ⟨rfl, rfl⟩
      go_wp2_with fail
      go_ret2
      exact ⟨by rw [decide_eq_false HX0.out]; rfl, HR4.out, HB4.out, HT4.out, HX4.out⟩

/-- A row of edges of one's own, beside rows of names that turn. -/
structure EdgS (w : World) (base : Nat) (A : Option Addr) (n c : Nat) (t : Tr) (vs : List Value) : Prop where
  own : w.ownsRow base 44 2 (.slice A n c) n vs
  row : RowP w (fun b => base ≤ b ∧ b < w.heap.size ∧ some b ≠ (Value.slice A n c).ownBlock ∧ NotS w b) vs t
section
variable {w w' : World} {base n c : Nat} {A : Option Addr} {t : Tr} {vs : List Value}
theorem EdgS.nil (w : World) (base : Nat) : EdgS w base none 0 0 .nil [] := ⟨World.ownsRow_nil w base _ _, trivial⟩
theorem EdgS.len (h : EdgS w base A n c t vs) : n = t.len := by
  have h1 := h.own.1
  have h2 := h.row.length
  omega
theorem EdgS.cap (h : EdgS w base A n c t vs) : n ≤ c ∧ c ≤ maxLen := own_cap h.own
theorem EdgS.keep (h : EdgS w base A n c t vs) (hz : w.heap.size ≤ w'.heap.size) (hs : ∀ b, base ≤ b → b < w.heap.size → NotS w b → w'.heap[b]? = w.heap[b]?) : EdgS w' base A n c t vs := by
  refine ⟨own_same h.own (fun q hq => ?_), ?_⟩
  · obtain ⟨h1, cu, h2⟩ := own_at h.own hq
    exact hs q h1 (Array.getElem?_eq_some_iff.1 h2).1 (notS_cells h2 (by decide))
  · exact (h.row.keep (w' := w') fun b o hb => World.cell?_of_block (a := ⟨b, o, none⟩) (hs b hb.1 hb.2.1 hb.2.2.2)).more fun b hb => ⟨hb.1, Nat.lt_of_lt_of_le hb.2.1 hz, hb.2.2.1, hb.2.2.2.to (hs b hb.1 hb.2.1 hb.2.2.2)⟩
theorem EdgS.tws {eb g k : Nat} (h : EdgS w eb A n c t vs) (hg : g < eb) (hk : k < eb) (a : Tws base g k w w') : EdgS w' eb A n c t vs :=
  h.keep a.size (fun b h1 h2 h3 => a.block b h2 (by omega) (by omega) (.inr h3))
theorem EdgS.holdsP (h : EdgS w base A n c t vs) : HoldsP w (fun b => base ≤ b ∧ b < w.heap.size ∧ NotS w b) A n t := by
  have hn := h.len
  rcases h.own.2 with ⟨e1, e2⟩ | ⟨g, cap, cur, e1, hg, hh, hcap, hmx, hsz, htk⟩
  · subst e2
    cases t with
    | nil => rfl
    | cons _ _ _ => simp [Tr.len] at hn
  · injection e1 with a1 a2 a3
    subst a1
    have hc : ∀ j u, vs[j]? = some u → w.cell? ⟨g, 0 + j, none⟩ = some u := fun j u hu => by
      have := rowCells h.own j u hu
      rw [Addr.add_lit] at this
      exact this
    have hrow := (h.row.more (P' := fun b => base ≤ b ∧ b < w.heap.size ∧ NotS w b) fun b hb => ⟨hb.1, hb.2.1, hb.2.2.2⟩).holds (g := g) ⟨by omega, (Array.getElem?_eq_some_iff.1 hh).1, notS_cells hh (by decide)⟩ hc
    rw [hn]
    exact hrow
theorem EdgS.push {m c2 : Nat} {A2 : Option Addr} {u : Tr} {us : List Value} (h : EdgS w base A n c t vs) (hu : RowP w (fun b => base ≤ b ∧ b < w.heap.size ∧ some b ≠ (Value.slice A n c).ownBlock ∧ NotS w b) us u)
    (ho : w'.ownsRow base 44 2 (.slice A2 m c2) m (vs ++ us)) (hg : w.grownBy w' (Value.slice A n c).ownBlock) (hat : ∀ a, A2 = some a → w.heap.size ≤ a.block ∨ some a.block = (Value.slice A n c).ownBlock) :
    EdgS w' base A2 m c2 (appT t u) (vs ++ us) := by
  refine ⟨ho, ?_⟩
  refine ((h.row.app hu).keep (w' := w') fun b o hb => World.cell?_of_block (hg.block b hb.2.1 hb.2.2.1)).more fun b hb => ⟨hb.1, Nat.lt_of_lt_of_le hb.2.1 hg.size, fun e => ?_, hb.2.2.2.to (hg.block b hb.2.1 hb.2.2.1)⟩
  cases A2 with
  | none => cases e
  | some a =>
    have e : b = a.block := by injection e
    rcases hat a rfl with h1 | h1
    · have := hb.2.1; omega
    · exact hb.2.2.1 (by rw [e]; exact h1)
end
end Go.Proofs.Ytebiinjcegdmpaa.Ps
