/- schema.Check, from below: what is wrong with a field. Conditions: fewer than 4,096 fields, names in each. -/
import Derived.Test.YtagoeededpmdkaaScLevelW
namespace Go.Proofs.Ytagoeededpmdkaa.Sc
open Go.RowKit Go.Proofs.Ytagoeededpmdkaa.Nm
set_option maxRecDepth 100000

def long (n : St) : Bool := n.l.any fun x => decide (80 < x.length)
def twice (f g : Fld) : Bool := !(both f.n g.n).none
/-- What is wrong with a field, behind those ahead of it; with a definition's fields; with definitions; with a schema. -/
def fldC (defs : Nat) (ahead : List Fld) (f : Fld) : Int :=
  if 20 < f.n.l.length then 4 else if long f.n = true then 5 else if 0 ≤ f.to ∧ f.to < (defs : Int) then (if (f.need && f.n.all) = true then 3 else if ahead.any (twice f) = true then 7 else 0) else 1
def fsC (defs : Nat) : List Fld → List Fld → Int
  | _, [] => 0
  | a, f :: r => if fldC defs a f = 0 then fsC defs (a ++ [f]) r else fldC defs a f
def dfC (defs : Nat) (d : Df) : Int := if 6 < d.fs.length then 4 else fsC defs [] d.fs
def dsC (defs : Nat) : List Df → Int
  | [] => 0
  | d :: r => if dfC defs d = 0 then dsC defs r else dfC defs d
def chk (s : List Df) : Int := if s.length = 0 then 2 else if 12 < s.length then 4 else dsC s.length s

theorem any_take {α : Type} {l : List α} {p : α → Bool} {k : Nat} {y : α} (h : l[k]? = some y) : (l.take (k + 1)).any p = ((l.take k).any p || p y) := by
  rw [List.take_add_one, h]
  simp
theorem any_true {α : Type} {l : List α} {p : α → Bool} {k : Nat} {y : α} (h : l[k]? = some y) (hp : p y = true) : l.any p = true := by
  rw [List.any_eq_true]
  exact ⟨y, List.mem_of_getElem? h, hp⟩

theorem long_any (x : ByteArray) (w : World) :
    Calls Try.prog 169 #[.string x] w fun e w' => e = .returned (.bool (decide (80 < x.data.toList.length))) ∧ w = w' := by
  have hx : x.data.toList.length = x.size := by rw [Array.length_toList]; rfl
  rw [hx]
  by_cases h : 80 < x.size
  · have H : Hid (decide (80 < x.size) = true) := Lib.hid (decide_eq_true h)
    rw [H.out]
    have h2 : (80 : Int) < (x.size : Int) := by omega
    clear hx
    go_enter Try.func169, Try.ntmps169
    go_wp2
    go_ret
    exact ⟨by first | rfl | (simp; omega), rfl⟩
  · have H : Hid (decide (80 < x.size) = false) := Lib.hid (decide_eq_false h)
    rw [H.out]
    have h2 : (x.size : Int) ≤ 80 := by omega
    clear hx
    go_enter Try.func169, Try.ntmps169
    go_wp2
    go_ret
    exact ⟨by first | rfl | (simp; omega), rfl⟩

set_option maxHeartbeats 1000000 in
theorem index_long (ss : List (List UInt8)) (A : Option Addr) (n c B : Nat) (w : World) (hs : SeesV w B A n (ss.map encs)) (hn : n ≤ 4611686018427387904) :
    Calls Try.prog 186 #[.slice A n c, .func (.func 169) #[] #[]] w fun e w' => (∃ i : Int, -1 ≤ i ∧ i ≤ 4611686018427387904 ∧ e = .returned (.int .i64 i) ∧ decide (0 ≤ i) = ss.any fun x => decide (80 < x.length)) ∧ w = w' := by
  have hl := hs.len
  rw [List.length_map] at hl
  have Hl := Lib.hid hl
  obtain ⟨p, hp⟩ : ∃ p : List UInt8 → Bool, p = fun x => decide (80 < x.length) := ⟨_, rfl⟩
  have Hp := Lib.hid hp
  rw [← hp]
  obtain ⟨d, hd⟩ : ∃ d, d = ss.any p := ⟨_, rfl⟩
  have Hd := Lib.hid hd
  rw [← hd]
  clear hd hp hl
  go_enter Try.func186, Try.ntmps186
  go_wp2_with fail
  go_loop [8] (fun i => ∃ k : Nat, k ≤ n ∧ i = .int .i64 k ∧ Hid ((ss.take k).any p = false)) (fun i => n - (intOf i).toNat)
  case atStart => exact ⟨0, Nat.zero_le _, rfl, Lib.hid (by simp)⟩
  case round =>
    obtain ⟨k, hk, rfl, H⟩ := hrel
    by_cases hlt : k < n
    · obtain ⟨b, o, s, rfl, hb, hc, hsk⟩ := nth hs hlt
      have Hs := Lib.hid hsk
      have hkn : (k : Int) < (n : Int) := by omega
      have hk0 : (0 : Int) ≤ (k : Int) := by omega
      have HC := Lib.hid (long_any s w)
      obtain ⟨q, hq⟩ : ∃ q, q = decide (80 < s.data.toList.length) := ⟨_, rfl⟩
      have Hq : Hid (p s.data.toList = q) := Lib.hid (by rw [hq, Hp.out])
      rw [← hq] at HC
      clear hsk hq
      cases q with
      | true =>
        have Hd2 : d = true := by rw [Hd.out]; exact any_true Hs.out Hq.out
        subst Hd2
        go_wp2_with fail
        (with_reducible refine HC.out.mono ?_)
        rintro e w1 ⟨rfl, rfl⟩
        go_wp2_with fail
        go_ret
        exact ⟨⟨k, by omega, by omega, rfl, by simp⟩, rfl⟩
      | false =>
        have H2 : Hid ((ss.take (k + 1)).any p = false) := Lib.hid (by rw [any_take Hs.out, H.out, Hq.out]; rfl)
        go_wp2_with fail
        (with_reducible refine HC.out.mono ?_)
        rintro e w1 ⟨rfl, rfl⟩
        go_wp2_with fail
        go_round
        case rel => exact ⟨k + 1, by omega, by go_num, H2⟩
        case measure => simp [intOf]; omega
    · obtain rfl : k = n := by omega
      have Hd2 : d = false := by
        have := H.out
        rw [List.take_of_length_le (by rw [← Hl.out]; exact Nat.le_refl _)] at this
        rw [Hd.out, this]
      subst Hd2
      go_wp2_with fail
      go_ret
      exact ⟨⟨-1, by omega, by omega, rfl, by first | rfl | omega⟩, rfl⟩

theorem contains_long (n0 : St) (A : Option Addr) (n c B : Nat) (w : World) (hs : SeesV w B A n (n0.l.map encs)) (hn : n ≤ 4611686018427387904) :
    Calls Try.prog 171 #[.slice A n c, .func (.func 169) #[] #[]] w fun e w' => e = .returned (.bool (long n0)) ∧ w = w' := by
  have HC := Lib.hid (index_long n0.l A n c B w hs hn)
  obtain ⟨d, hd⟩ : ∃ d, d = long n0 := ⟨_, rfl⟩
  have hd' : (n0.l.any fun x => decide (80 < x.length)) = d := by rw [hd]; rfl
  rw [hd'] at HC
  rw [← hd]
  clear hd hd' hs
  go_enter Try.func171, Try.ntmps171
  go_wp2_with fail
  (with_reducible refine HC.out.mono ?_)
  rintro e w1 ⟨⟨i, hi1, hi2, rfl, hi⟩, rfl⟩
  have Hi := Lib.hid hi
  clear hi
  go_wp2_with fail
  go_ret
  exact ⟨by rw [← Hi.out]; rfl, rfl⟩

/-- A field's aggregate. -/
def fval (f : Fld) (A : Option Addr) (n c : Nat) : Value := .agg #[.bool f.n.all, .slice A n c, .int .i64 f.to, .bool f.need]
def fbox (f : Fld) (A : Option Addr) (n c : Nat) : Obj := Obj.cells #[Value.bool f.n.all, Value.slice A n c, Value.int .i64 f.to, Value.bool f.need] 83

set_option maxHeartbeats 1000000 in
theorem twice_any (f g : Fld) (A A2 : Option Addr) (n c n2 c2 B q : Nat) (w : World) (hB : B ≤ w.heap.size) (hf : w.heap[q]? = some (fbox f A n c)) (hs : SeesV w B A n (f.n.l.map encs)) (hs2 : SeesV w B A2 n2 (g.n.l.map encs)) (hn : n ≤ 4096) (hn2 : n2 ≤ 4096) :
    Calls Try.prog 170 #[.agg #[.bool g.n.all, .slice A2 n2 c2, .int .i64 g.to, .bool g.need], .pointer (some ⟨q, 0, none⟩)] w fun e w' => e = .returned (.bool (twice f g)) ∧ Below w.heap.size w w' := by
  obtain ⟨W1, hW1⟩ : ∃ W, W = w.alloc (fbox g A2 n2 c2) := ⟨_, rfl⟩
  have g0 : W1.heap[w.heap.size]? = some (fbox g A2 n2 c2) := by rw [hW1, heap_alloc_new]
  have hb1 : Below w.heap.size w W1 := by rw [hW1]; exact (Below.refl _ _).alloc (Nat.le_refl _) _
  have hBW : B ≤ W1.heap.size := Nat.le_trans hB hb1.size
  have HC := Lib.hid (both_at (W1 := W1) f.n g.n A A2 n c n2 c2 hn hn2 W1 (Below.refl _ _) ⟨SeesV.more hBW (hs.below (hb1.mono hB))⟩ ⟨SeesV.more hBW (hs2.below (hb1.mono hB))⟩)
  obtain ⟨b, hb⟩ : ∃ b, b = both f.n g.n := ⟨_, rfl⟩
  have HN := Lib.hid (fun W A c (hx : Below W1.heap.size W1 W) => none_at (W1 := W1) b A c W hx)
  have HT : Hid (twice f g = !b.none) := Lib.hid (by rw [hb]; rfl)
  rw [HT.out]
  rw [← hb] at HC
  have hq := Below.box hb1 hf
  unfold fbox at hq g0 hW1 hf
  obtain ⟨z0, z1, z2, z3⟩ := box4 hf
  have hql : q < w.heap.size := (Array.getElem?_eq_some_iff.1 hf).1
  obtain ⟨p0, p1, p2, p3⟩ := box4 g0
  obtain ⟨q0, q1, q2, q3⟩ := box4 hq
  have HB1 := Lib.hid hb1
  clear hb hf hs hs2 hb1 g0 HT
  go_enter Try.func170, Try.ntmps170
  go_wp2_with fail
  rw [← hW1]
  clear hW1
  go_wp2_with fail
  (with_reducible refine HC.out.mono ?_)
  rintro e w1 ⟨A3, c3, rfl, _, hb2⟩
  go_wp2_with fail
  (with_reducible refine (HN.out _ _ _ hb2).mono ?_)
  rintro e w2 ⟨rfl, hb3⟩
  go_wp2_with fail
  go_ret
  exact ⟨rfl, HB1.out.trans (hb3.mono HB1.out.size)⟩

set_option maxHeartbeats 2000000 in
theorem index_twice (f : Fld) (fs : List Fld) (A A2 : Option Addr) (n c n2 c2 B q : Nat) (w : World) (hB : B ≤ w.heap.size) (hf : w.heap[q]? = some (fbox f A n c)) (hs : SeesV w B A n (f.n.l.map encs)) (hF : Fs w B A2 n2 fs) (hfit : Fit fs) (hn : n ≤ 4096) (hn2 : n2 ≤ 4096) :
    Calls Try.prog 187 #[.slice A2 n2 c2, .func (.func 170) #[] #[.pointer (some ⟨q, 0, none⟩)]] w (Found (fs.any (twice f)) w) := by
  have Hl := Lib.hid hF.len
  obtain ⟨p, hp⟩ : ∃ p : Fld → Bool, p = twice f := ⟨_, rfl⟩
  have Hp := Lib.hid hp
  rw [← hp]
  obtain ⟨d, hd⟩ : ∃ d, d = fs.any p := ⟨_, rfl⟩
  have Hd := Lib.hid hd
  rw [← hd]
  have HX := Lib.hid hfit
  have HQ := Lib.hid hf
  clear hd hp hfit hf
  go_enter Try.func187, Try.ntmps187
  go_wp2_with fail
  go_loopw [8] (fun i wr => ∃ k : Nat, k ≤ n2 ∧ i = .int .i64 k ∧ Hid ((fs.take k).any p = false) ∧ Below w.heap.size w wr) (fun i _ => n2 - (intOf i).toNat)
  case atStart => exact ⟨0, Nat.zero_le _, rfl, Lib.hid (by simp), Below.refl _ _⟩
  case round =>
    obtain ⟨k, hk, rfl, H, hbw⟩ := hrel
    by_cases hlt : k < n2
    · obtain ⟨b, o, g, A3, n3, c3, rfl, hb, hg, f1, f2, f3, f4, hS, f5, f6⟩ := (hF.below (hbw.mono hB)).at hlt
      have Hs := Lib.hid hg
      have hn3 : n3 ≤ 4096 := by
        have h1 := hS.len
        rw [List.length_map] at h1
        rw [h1]
        exact HX.out g (List.mem_of_getElem? hg)
      have hkn : (k : Int) < (n2 : Int) := by omega
      have hk0 : (0 : Int) ≤ (k : Int) := by omega
      have hsz := hbw.size
      have HC := Lib.hid (twice_any f g A A3 n c n3 c3 B q wr (Nat.le_trans hB hsz) (Below.box hbw HQ.out) (hs.below (hbw.mono hB)) hS hn hn3)
      obtain ⟨v, hv⟩ : ∃ v, v = twice f g := ⟨_, rfl⟩
      have Hq : Hid (p g = v) := Lib.hid (by rw [hv, Hp.out])
      rw [← hv] at HC
      clear hv hg hS f5 f6
      cases v with
      | true =>
        have Hd2 : d = true := by rw [Hd.out]; exact any_true Hs.out Hq.out
        subst Hd2
        go_wp2_with fail
        (with_reducible refine HC.out.mono ?_)
        rintro e w1 ⟨rfl, hb2⟩
        go_wp2_with fail
        go_ret
        exact ⟨k, by omega, by omega, rfl, by simp, hbw.trans (hb2.mono hsz)⟩
      | false =>
        have H2 : Hid ((fs.take (k + 1)).any p = false) := Lib.hid (by rw [any_take Hs.out, H.out, Hq.out]; rfl)
        go_wp2_with fail
        (with_reducible refine HC.out.mono ?_)
        rintro e w1 ⟨rfl, hb2⟩
        go_wp2_with fail
        go_roundw
        case rel => exact ⟨k + 1, by omega, by go_num, H2, hbw.trans (hb2.mono hsz)⟩
        case measure => simp [intOf]; omega
    · obtain rfl : k = n2 := by omega
      have Hd2 : d = false := by
        have := H.out
        rw [List.take_of_length_le (by rw [← Hl.out]; exact Nat.le_refl _)] at this
        rw [Hd.out, this]
      subst Hd2
      go_wp2_with fail
      go_ret
      exact ⟨-1, by omega, by omega, rfl, rfl, hbw⟩

theorem contains_twice (f : Fld) (fs : List Fld) (A A2 : Option Addr) (n c n2 c2 B q : Nat) (w : World) (hB : B ≤ w.heap.size) (hf : w.heap[q]? = some (fbox f A n c)) (hs : SeesV w B A n (f.n.l.map encs)) (hF : Fs w B A2 n2 fs) (hfit : Fit fs) (hn : n ≤ 4096) (hn2 : n2 ≤ 4096) :
    Calls Try.prog 172 #[.slice A2 n2 c2, .func (.func 170) #[] #[.pointer (some ⟨q, 0, none⟩)]] w fun e w' => e = .returned (.bool (fs.any (twice f))) ∧ Below w.heap.size w w' := by
  have HC := Lib.hid (index_twice f fs A A2 n c n2 c2 B q w hB hf hs hF hfit hn hn2)
  obtain ⟨d, hd⟩ : ∃ d, d = fs.any (twice f) := ⟨_, rfl⟩
  rw [← hd] at HC ⊢
  clear hd hf hs hF hfit
  go_enter Try.func172, Try.ntmps172
  go_wp2_with fail
  (with_reducible refine HC.out.mono ?_)
  rintro e w1 ⟨i, hi1, hi2, rfl, hi, hb1⟩
  have Hi := Lib.hid hi
  clear hi
  go_wp2_with fail
  go_ret
  exact ⟨by rw [← Hi.out]; rfl, hb1⟩
end Go.Proofs.Ytagoeededpmdkaa.Sc
