/- The reader: digit, char: the byte that comes next. Conditions: at most 2^30 runes. -/
import Derived.Test.YtclgemkdlgpekaaReTake
import Derived.Deep.RegionLaw
namespace Go.Proofs.Ytclgemkdlgpekaa.Re
open Go.RowKit
set_option maxRecDepth 100000

/-- Where the digit stands, as a byte. -/
def dgv (c : Nat) : Int := IntKind.u8.wrap (hexI (c : Int))
theorem dgv_dig (d : Nat) (h : d < 16) : dgv (dig16 d).toNat = d := by
  rw [dgv, hexI_dig d h, IntKind.wrap_u8]; omega
def DgP (w : World) (b B : Nat) (r : List Nat) (e : Ending) (w' : World) : Prop :=
  e = .returned (.int .u8 (dgv (nxt r).1)) ∧ Rd w' b B (nxt r).2 ∧ w.grownBy w' (some b)
theorem grown_below {w w' : World} (h : Below w.heap.size w w') (row : Option Nat) : w.grownBy w' row := ⟨h.os, h.tape, h.output, h.size, fun k hk _ => h.block k hk⟩
theorem Rd.below {w w' : World} {b B : Nat} {r : List Nat} (h : Rd w b B r) (hb : Below w.heap.size w w') : Rd w' b B r := h.kept (row := none) (grown_below hb none) (by simp) (by simp)

set_option maxHeartbeats 1000000 in
theorem digit_any (b B : Nat) (r : List Nat) (w : World) (h : Rd w b B r) :
    Calls Try.prog 50 #[.pointer (some ⟨b, 0, none⟩)] w (DgP w b B r) := by
  have HN := Lib.hid (next_any b B r w h)
  obtain ⟨x, hx⟩ : ∃ x, x = (nxt r).1 := ⟨_, rfl⟩
  have HX := Lib.hid hx
  clear h
  go_enter Try.func50, Try.ntmps50
  go_wp2_with fail
  (with_reducible refine HN.out.mono ?_)
  rintro e w1 ⟨rfl, h1, hg1⟩
  rw [← hx]
  have HI := Lib.hid (fun w => hexRune_any (x : Int) w (by omega))
  have H1 := Lib.hid h1
  have HG := Lib.hid hg1
  clear h1 hg1 hx
  go_wp2_with fail
  (with_reducible refine (HI.out _).mono ?_)
  rintro e w2 ⟨rfl, hb2⟩
  go_wp2_with fail
  go_ret
  refine ⟨?_, H1.out.below hb2, HG.out.trans (grown_below hb2 _)⟩
  rw [← HX.out]; rfl

def ChP (w : World) (b B : Nat) (r : List Nat) (e : Ending) (w' : World) : Prop :=
  ∃ (c : UInt8) (r' : List Nat), e = .returned (.int .u8 (c.toNat : Int)) ∧ Rd w' b B r' ∧ w.grownBy w' (some b) ∧ (r ≠ [] → r'.length < r.length) ∧ (∀ c0 r0, r = nats (quoB c0) ++ r0 → c = c0 ∧ r' = r0)
theorem sees_lit (w : World) (l : List Nat) (cs : Array Value) (hc : cs = (l.map rv).toArray) : SeesV (w.alloc (.cells cs 21)) (w.heap.size + 1) (some ⟨w.heap.size, 0, none⟩) l.length (l.map rv) := by
  subst hc
  refine ⟨by rw [List.length_map], fun j u hu => ⟨w.heap.size, 0, rfl, Nat.lt_succ_self _, ?_⟩⟩
  rw [Nat.zero_add, cell_of_row _ _ _ _ _ _ (heap_alloc_new w _)]
  simpa using hu
theorem nxt_len (r : List Nat) : (nxt r).2.length ≤ r.length := by cases r <;> simp [nxt]
theorem nxt_lt {r : List Nat} (h : r ≠ []) : (nxt r).2.length < r.length := by cases r with
  | nil => exact absurd rfl h
  | cons x r => simp [nxt]


/-- The byte in two digits. -/
theorem two_digits : ∀ a : Nat, a < 16 → ∀ b : Nat, b < 16 → bits .or .u8 ((a : Int) * 16 % 256) (b : Int) = ((16 * a + b : Nat) : Int) := by decide
theorem or_some (x y : Int) : ∃ c : UInt8, bits .or .u8 x y = (c.toNat : Int) := by
  obtain ⟨c, hc⟩ : ∃ c : UInt8, IntKind.u8.wrap (((BitVec.ofInt 8 x ||| BitVec.ofInt 8 y).toNat : Nat) : Int) = (c.toNat : Int) := by
    refine ⟨UInt8.ofNat (IntKind.u8.wrap (((BitVec.ofInt 8 x ||| BitVec.ofInt 8 y).toNat : Nat) : Int)).toNat, ?_⟩
    rw [IntKind.wrap_u8, UInt8.toNat_ofNat']
    omega
  exact ⟨c, hc⟩
theorem quo_two {c0 : UInt8} {r0 r : List Nat} (h : r = nats (quoB c0) ++ r0) (h2 : r.take 2 = [92, 120]) : ∃ a b : Nat, a < 16 ∧ b < 16 ∧ c0.toNat = 16 * a + b ∧ r = 92 :: 120 :: (dig16 a).toNat :: (dig16 b).toNat :: r0 := by
  rcases quoB_sorts c0 with ⟨e, h1⟩ | ⟨a, b, ha, hb, hab, e⟩ | ⟨e, h1, h3, _⟩
  · rw [h, e] at h2
    rcases h1 with rfl | rfl <;> simp [nats] at h2
  · exact ⟨a, b, ha, hb, hab, by rw [h, e]; rfl⟩
  · rw [h, e] at h2
    simp only [nats, List.map_cons, List.map_nil, List.cons_append, List.nil_append, List.take_succ_cons, List.cons.injEq] at h2
    exact absurd (UInt8.toNat_inj.1 (show c0.toNat = (92 : UInt8).toNat from h2.1)) h3
theorem quo_one {c0 : UInt8} {r0 r : List Nat} (h : r = nats (quoB c0) ++ r0) (h2 : ¬ r.take 2 = [92, 120]) : (if r.take 1 = [92] then r.drop 1 else r) = c0.toNat :: r0 := by
  rcases quoB_sorts c0 with ⟨e, h1⟩ | ⟨a, b, ha, hb, hab, e⟩ | ⟨e, h1, h3, _⟩
  · rw [h, e, if_pos (by rfl)]; rfl
  · exact absurd (by rw [h, e]; rfl) h2
  · rw [h, e, if_neg (fun h4 => h3 (UInt8.toNat_inj.1 (by
      simp only [nats, List.map_cons, List.map_nil, List.cons_append, List.nil_append, List.take_succ_cons, List.take_zero, List.cons.injEq, and_true] at h4
      exact h4)))]; rfl
set_option maxHeartbeats 1000000 in
theorem char_any (b B : Nat) (r : List Nat) (w : World) (h : Rd w b B r) :
    Calls Try.prog 40 #[.pointer (some ⟨b, 0, none⟩)] w (ChP w b B r) := by
  by_cases hx : r.take 2 = [92, 120]
  · have hT := Lib.hid (take_yes b B _ r [92, 120] (some ⟨w.heap.size, 0, none⟩) 2 2 _ (h.alloc (.cells #[.int .i32 92, .int .i32 120] 21)) (sees_lit w [92, 120] _ rfl) (Nat.le_refl _) hx)
    have HX := Lib.hid hx
    clear h hx
    go_enter Try.func40, Try.ntmps40
    go_wp2_with fail
    (with_reducible refine hT.out.mono ?_)
    rintro e w1 ⟨rfl, h1, hg1⟩
    have HG1 := Lib.hid ((World.grownBy_alloc w _ _).trans hg1)
    have HD1 := Lib.hid (digit_any b B _ w1 h1)
    clear h1 hg1
    obtain ⟨r1, hr1⟩ : ∃ r1, r1 = r.drop 2 := ⟨_, rfl⟩
    rw [← hr1] at HD1
    have HR1 := Lib.hid hr1
    obtain ⟨a, ha⟩ : ∃ a, a = dgv (nxt r1).1 := ⟨_, rfl⟩
    have HA := Lib.hid ha
    clear hr1
    go_wp2_with fail
    (with_reducible refine HD1.out.mono ?_)
    rintro e w2 ⟨rfl, h2, hg2⟩
    rw [← ha]
    have HG2 := Lib.hid (HG1.out.trans hg2)
    have HD2 := Lib.hid (digit_any b B _ w2 h2)
    obtain ⟨d, hd⟩ : ∃ d, d = dgv (nxt (nxt r1).2).1 := ⟨_, rfl⟩
    have HDD := Lib.hid hd
    clear h2 hg2 ha
    go_wp2_with fail
    (with_reducible refine HD2.out.mono ?_)
    rintro e w3 ⟨rfl, h3, hg3⟩
    rw [← hd]
    have HG3 := Lib.hid (HG2.out.trans hg3)
    have H3 := Lib.hid h3
    clear h3 hg3 hd
    go_wp2_with fail
    go_ret
    obtain ⟨c, hc⟩ := or_some (a * 16 % 256) d
    have h3 : 2 ≤ r.length := by
      have := congrArg List.length HX.out
      rw [List.length_take] at this
      simp only [List.length_cons, List.length_nil] at this
      omega
    have h4 : (nxt (nxt r1).2).2.length ≤ r1.length := Nat.le_trans (nxt_len _) (nxt_len _)
    refine ⟨c, (nxt (nxt r1).2).2, by rw [← hc]; rfl, H3.out, HG3.out, fun _ => ?_, fun c0 r0 he => ?_⟩
    · rw [HR1.out, List.length_drop] at h4
      rw [HR1.out]
      omega
    · obtain ⟨x, y, hx, hy, hxy, hr⟩ := quo_two he HX.out
      have e1 : r1 = (dig16 x).toNat :: (dig16 y).toNat :: r0 := by rw [HR1.out, hr]; rfl
      have ea : a = x := by rw [HA.out, e1]; exact dgv_dig x hx
      have ed : d = y := by rw [HDD.out, e1]; exact dgv_dig y hy
      rw [ea, ed, two_digits x hx y hy] at hc
      refine ⟨UInt8.toNat_inj.1 (by omega), by rw [e1]; rfl⟩
  · have hT := Lib.hid (take_no b B _ r [92, 120] (some ⟨w.heap.size, 0, none⟩) 2 2 _ (h.alloc (.cells #[.int .i32 92, .int .i32 120] 21)) (sees_lit w [92, 120] _ rfl) (Nat.le_refl _) hx)
    have HX := Lib.hid hx
    clear h hx
    go_enter Try.func40, Try.ntmps40
    go_wp2_with fail
    (with_reducible refine hT.out.mono ?_)
    rintro e w1 ⟨rfl, h1, hg1⟩
    have hT2 := Lib.hid (take_any b B _ r [92] (some ⟨w1.heap.size, 0, none⟩) 1 1 _ (h1.alloc (.cells #[.int .i32 92] 21)) (sees_lit w1 [92] _ rfl) (by decide))
    have HG1 := Lib.hid ((World.grownBy_alloc w _ _).trans hg1)
    clear h1 hg1
    go_wp2_with fail
    (with_reducible refine hT2.out.mono ?_)
    rintro e w2 ⟨rfl, h2, hg2⟩
    have HG2 := Lib.hid (HG1.out.trans ((World.grownBy_alloc w1 _ _).trans hg2))
    obtain ⟨r2, hr2⟩ : ∃ r2, r2 = (if r.take 1 = [92] then r.drop 1 else r) := ⟨_, rfl⟩
    have h2' : Rd w2 b B r2 := by rw [hr2]; exact h2
    have HR2 := Lib.hid hr2
    have HN := Lib.hid (next_any b B r2 w2 h2')
    clear h2 h2' hg2 hr2
    go_wp2_with fail
    (with_reducible refine HN.out.mono ?_)
    rintro e w3 ⟨rfl, h3, hg3⟩
    have H3 := Lib.hid h3
    have HG3 := Lib.hid (HG2.out.trans hg3)
    clear h3 hg3
    go_wp2_with fail
    go_ret
    refine ⟨UInt8.ofNat (nxt r2).1, (nxt r2).2, ?_, H3.out, HG3.out, fun hne => ?_, fun c0 r0 he => ?_⟩
    · rw [UInt8.toNat_ofNat']; rfl
    · by_cases h1 : r.take 1 = [92]
      · have e1 : r2 = r.drop 1 := by rw [HR2.out, if_pos h1]
        have h3 : 1 ≤ r.length := by cases r with
          | nil => exact absurd rfl hne
          | cons x r => simp
        have := nxt_len r2
        rw [e1, List.length_drop] at this
        rw [e1]
        omega
      · have e1 : r2 = r := by rw [HR2.out, if_neg h1]
        rw [e1]
        exact nxt_lt hne
    · rw [quo_one he HX.out] at HR2
      rw [HR2.out]
      exact ⟨UInt8.ofNat_toNat, rfl⟩

/-- A name, up to its quote, or to the end. -/
def NmP (w : World) (b B : Nat) (r : List Nat) (e : Ending) (w' : World) : Prop :=
  ∃ (s : ByteArray) (r' : List Nat), e = .returned (.string s) ∧ Rd w' b B r' ∧ w.grownBy w' (some b) ∧ s.size + r'.length ≤ r.length ∧ (∀ l r0, r = nats (quoL l) ++ 34 :: r0 → s.data.toList = l ∧ r' = r0)
/-- What the loop keeps. -/
structure NmI (w wr : World) (b B base : Nat) (r rk : List Nat) (A : Option Addr) (N c : Nat) (out : Bs) : Prop where
  rd : Rd wr b B rk
  grown : w.grownBy wr (some b)
  own : Own wr base A N c out
  base : base = w.heap.size
  few : out.length + rk.length ≤ r.length
  told : ∀ l r0, r = nats (quoL l) ++ 34 :: r0 → ∃ l', l = out ++ l' ∧ rk = nats (quoL l') ++ 34 :: r0
theorem quoL_cons (c : UInt8) (l : Bs) : quoL (c :: l) = quoB c ++ quoL l := by simp [quoL]
end Go.Proofs.Ytclgemkdlgpekaa.Re
