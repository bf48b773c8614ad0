/- TreeBounds: its four kinds of trees, their faults; what Check, Bytes, Parse, Same say of such trees. No conditions. -/
import Derived.Test.YtebiinjcegdmpaaPsParse
import Derived.Test.YtebiinjcegdmpaaTCW
namespace Go.Proofs.Ytebiinjcegdmpaa.Ps
open Go.RowKit Go.Proofs.Ytebiinjcegdmpaa.Jd Go.Proofs.Ytebiinjcegdmpaa.Cl
set_option maxRecDepth 100000

theorem slim_fit : ∀ {t : Tr}, t.Slim → Fit2 t
  | .nil, _ => trivial
  | .cons _ _ _, ⟨h1, h2, h3, h4⟩ => ⟨h1, h2, slim_fit h3, slim_fit h4⟩
theorem textB_len (s : ByteArray) (h : s.size ≤ 65535) : (textB s).length = 2 + s.size := by
  unfold textB
  rw [cutText_short h, List.length_append, leB_length]
  rfl
theorem kids_len : ∀ t : Tr, Fit2 t → t.kids.length = 4 * t.size + t.bulk
  | .nil, _ => rfl
  | .cons s k r, ⟨h1, h2, h3, h4⟩ => by
    simp only [Tr.kids, List.length_append, textB_len s h1, cnt_length, kids_len k h3, kids_len r h4, Tr.size, Tr.bulk]
    omega
theorem bin_len (t : Tr) (h : Fit2 t) : t.bin.length = 2 + 4 * t.size + t.bulk := by
  rw [Tr.bin, List.length_append, cnt_length, kids_len t h]
  omega
/-- What a tree's own bytes are read as. -/
theorem psP_bin (t : Tr) (hl : t.len ≤ 65535) (hf : Fit2 t) : psP t.bin = if t.fault = 0 then (t, 0) else (.nil, (t.fault : Int)) := by
  obtain ⟨h1, h2⟩ := psT_bin t [] hl hf
  rw [List.append_nil] at h1 h2
  unfold psP
  by_cases h : t.fault = 0
  · rw [if_pos h, h1 h]
    simp
  · obtain ⟨l', m', e⟩ := h2 h
    rw [if_neg h, e]
    rw [if_pos (by show ¬ (((walkC 1 t none 0).2 : Nat) : Int) = 0; have : (walkC 1 t none 0).2 ≠ 0 := h; omega)]
    rfl

structure Bnd (w : World) (A : Option Addr) (n c : Nat) (t : Tr) (f : Int) : Prop where
  ok : Okay w A n c t
  fit : Fit2 t
  bulk : t.bulk ≤ 100000
  fault : (t.fault : Int) = f
section
variable {w W : World} {A : Option Addr} {n c : Nat} {t : Tr} {f : Int}
theorem Bnd.below (h : Bnd w A n c t f) (hb : Below w.heap.size w W) : Bnd W A n c t f := ⟨h.ok.below hb, h.fit, h.bulk, h.fault⟩
theorem bnd_check (h : Bnd w A n c t f) (hb : Below w.heap.size w W) : Calls Try.prog 18 #[.slice A n c] W fun e w' => e = .returned (.int .i64 f) ∧ Below W.heap.size W w' := by
  rw [← h.fault]
  exact okay_check (h.below hb).ok
theorem bnd_bytes (h : Bnd w A n c t f) (hb : Below w.heap.size w W) : Calls Try.prog 11 #[.slice A n c] W (ByP W t.bin) := by
  have h1 := (h.below hb).ok
  have hs := h1.size
  have hk := h.bulk
  exact rbytes_any t.size t A n c W.heap.size W (Nat.le_refl _) h1.holds (Nat.le_refl _) (by omega) (by rw [bin_len t h.fit]; omega)
theorem bnd_parse (h : Bnd w A n c t f) {A5 : Option Addr} {n5 c5 base : Nat} (ho : Own W base A5 n5 c5 t.bin) : Calls Try.prog 10 #[.slice A5 n5 c5] W fun e w' => ∃ (A3 : Option Addr) (n3 c3 : Nat), e = .returned (.tuple #[.slice A3 n3 c3, .int .i64 f]) ∧ Below W.heap.size W w' ∧ (f ≠ 0 → n3 = 0) ∧ (f = 0 → Holds w' w'.heap.size A3 n3 t) := by
  have hs := h.ok.size
  have hk := h.bulk
  have hl := t.len_size
  have hn : n5 ≤ 70368744177664 := by rw [ho.len, bin_len t h.fit]; omega
  refine (gparse_any n5 c5 A5 t.bin W ho.sees hn).mono ?_
  rintro e w' ⟨A3, n3, c3, rfl, hh, hc1, hc2, hb⟩
  rw [psP_bin t (by omega) h.fit] at hh ⊢
  have hf := h.fault
  by_cases h0 : t.fault = 0
  · rw [if_pos h0] at hh ⊢
    exact ⟨A3, n3, c3, by rw [← hf, h0]; rfl, hb, fun hne => absurd (by rw [← hf, h0]; rfl) hne, fun _ => hh.to (fun _ hb => hb.2)⟩
  · rw [if_neg h0] at hh ⊢
    exact ⟨A3, n3, c3, by rw [← hf], hb, fun _ => hh, fun hz => absurd (by omega) h0⟩
theorem bnd_same (h : Bnd w A n c t f) (hb : Below w.heap.size w W) {A3 : Option Addr} {n3 c3 : Nat} (h3 : Holds W W.heap.size A3 n3 t) : Calls Try.prog 12 #[.slice A3 n3 c3, .slice A n c] W fun e w' => e = .returned (.bool true) ∧ Below W.heap.size W w' := by
  have h1 := (h.below hb).ok
  have hs := h1.size
  have hl := t.len_size
  have hn3 := h3.len
  have hn := h1.holds.len
  refine (rsame_any t.size t t A3 A n3 n c3 c W.heap.size W (Nat.le_refl _) h3 h1.holds (Nat.le_refl _) (by omega) (by omega) (low_size t (by omega)) (low_size t (by omega))).mono ?_
  rintro e w' ⟨rfl, q, rfl⟩
  exact ⟨by rw [same_refl], below_drewN (Below.refl _ _) q⟩
end

/-- A name of two bytes. -/
def nm2 (i : Nat) : ByteArray := ⟨#[UInt8.ofNat (i / 256), UInt8.ofNat (i % 256)]⟩
theorem nm2_lt : ∀ i, i < 404 → Op.bytesLess (nm2 i).toList (nm2 (i + 1)).toList = true := by decide +kernel
/-- So many leaves. -/
def lv (i : Nat) : Nat → Tr
  | 0 => .nil
  | k + 1 => .cons (nm2 i) .nil (lv (i + 1) k)
theorem lv_snoc : ∀ (k i : Nat), appT (lv i k) (.cons (nm2 (i + k)) .nil .nil) = lv i (k + 1)
  | 0, i => rfl
  | k + 1, i => by
    rw [lv, appT, show i + (k + 1) = (i + 1) + k by omega, lv_snoc k (i + 1)]
    rfl
theorem lv_len : ∀ (k i : Nat), (lv i k).len = k
  | 0, _ => rfl
  | k + 1, i => by rw [lv, Tr.len, lv_len k]
theorem lv_size : ∀ (k i : Nat), (lv i k).size = k
  | 0, _ => rfl
  | k + 1, i => by rw [lv, Tr.size, lv_size k, Tr.size]; omega
theorem nm2_size (i : Nat) : (nm2 i).size = 2 := rfl
theorem lv_bulk : ∀ (k i : Nat), (lv i k).bulk = 2 * k
  | 0, _ => rfl
  | k + 1, i => by rw [lv, Tr.bulk, lv_bulk k, Tr.bulk, nm2_size]; omega
theorem lv_fit : ∀ (k i : Nat), Fit2 (lv i k)
  | 0, _ => trivial
  | k + 1, i => ⟨by rw [nm2_size]; omega, Nat.zero_le _, trivial, lv_fit k _⟩
theorem lv_nm : ∀ (k i : Nat), Tr.Nm (lv i k)
  | 0, _ => trivial
  | k + 1, i => ⟨by rw [nm2_size]; omega, trivial, lv_nm k _⟩
theorem lv_walk : ∀ (k i : Nat) (p : Option ByteArray), i + k ≤ 404 → (p = none ∨ (0 < i ∧ p = some (nm2 (i - 1)))) → (walkC 1 (lv i k) p i).2 = if 400 < i + k ∧ 0 < k then 4 else 0
  | 0, i, p, _, _ => by simp [lv, walkC]
  | k + 1, i, p, h, hp => by
    have hna : notAfter p (nm2 i) = false := by
      rcases hp with rfl | ⟨h0, rfl⟩
      · rfl
      · have := nm2_lt (i - 1) (by omega)
        rw [show i - 1 + 1 = i by omega] at this
        simp [notAfter, this]
    rw [lv, walkC]
    by_cases h1 : 400 < i + 1
    · rw [if_pos h1, if_pos ⟨by omega, by omega⟩]
    · rw [if_neg h1, if_neg (by omega), if_neg (by rw [nm2_size]; omega), if_neg (by rw [hna]; simp), if_pos (show (walkC (1 + 1) Tr.nil none (i + 1)).2 = 0 from rfl)]
      have := lv_walk k (i + 1) (some (nm2 i)) (by omega) (.inr ⟨by omega, rfl⟩)
      have e : (walkC (1 + 1) Tr.nil none (i + 1)).1 = i + 1 := rfl
      rw [e, this]
      rcases Nat.eq_zero_or_pos k with hk | hk
      · rw [if_neg (by omega), if_neg (by omega)]
      · by_cases h2 : 400 < i + 1 + k
        · rw [if_pos ⟨h2, hk⟩, if_pos ⟨by omega, by omega⟩]
        · rw [if_neg (by omega), if_neg (by omega)]
theorem lv_fault (k : Nat) (h : k ≤ 404) : (lv 0 k).fault = if 400 < k then 4 else 0 := by
  unfold Tr.fault
  rw [lv_walk k 0 none (by omega) (.inl rfl)]
  by_cases h1 : 400 < k
  · rw [if_pos ⟨by omega, by omega⟩, if_pos h1]
  · rw [if_neg (by omega), if_neg h1]
/-- So deep. -/
def dp : Nat → Tr
  | 0 => .nil
  | k + 1 => .cons ⟨#[100]⟩ (dp k) .nil
theorem dp_size : ∀ k, (dp k).size = k
  | 0 => rfl
  | k + 1 => by rw [dp, Tr.size, dp_size k, Tr.size]
theorem dp_bulk : ∀ k, (dp k).bulk = k
  | 0 => rfl
  | k + 1 => by show 1 + (dp k).bulk + 0 = k + 1; rw [dp_bulk k]; omega
theorem dp_len : ∀ k, (dp k).len ≤ 1
  | 0 => Nat.zero_le _
  | _ + 1 => Nat.le_refl _
theorem dp_fit : ∀ k, Fit2 (dp k)
  | 0 => trivial
  | k + 1 => ⟨by have : (ByteArray.mk #[100]).size = 1 := rfl; omega, by have := dp_len k; omega, dp_fit k, trivial⟩
theorem dp_nm : ∀ k, Tr.Nm (dp k)
  | 0 => trivial
  | k + 1 => ⟨by have : (ByteArray.mk #[100]).size = 1 := rfl; omega, dp_nm k, trivial⟩
theorem dp_fault : ∀ k, k ≤ 15 → (dp k).fault = if 12 < k then 11 else 0 := by decide +kernel
/-- One leaf of a name. -/
theorem one_fault (z : ByteArray) : (Tr.cons z .nil .nil).fault = if 80 < z.size then 5 else 0 := by
  unfold Tr.fault
  rw [walkC, if_neg (by omega), if_neg (by omega)]
  by_cases h : 80 < z.size
  · rw [if_pos h, if_pos h]
  · rw [if_neg h, if_neg h]
    simp [notAfter, walkC]
/-- Two leaves. -/
def two2 (m : Nat) : Tr := .cons ⟨#[98]⟩ .nil (.cons ⟨#[UInt8.ofNat (102 - m)]⟩ .nil .nil)
theorem two_fault : ∀ m, m ≤ 5 → (two2 m).fault = if 4 ≤ m then 12 else 0 := by decide +kernel
theorem conv_one (a : Nat) (ha : a < 256) (W : World) : (convert 24 9 (.slice (some ⟨W.heap.size, 0, none⟩) 1 1)).run Try.prog (W.alloc (Obj.cells #[Value.int .u8 (a : Int)] 5)) = .ok (.string ⟨#[UInt8.ofNat a]⟩) (W.alloc (Obj.cells #[Value.int .u8 (a : Int)] 5)) := by
  have h1 : ∀ k : Nat, k < 256 → byt (UInt8.ofNat k) = Value.int .u8 (k : Int) := by
    intro k hk
    simp only [byt, UInt8.toNat_ofNat']
    congr 1
    omega
  have hs : Sees (W.alloc (Obj.cells #[Value.int .u8 (a : Int)] 5)) (W.heap.size + 1) (some ⟨W.heap.size, 0, none⟩) 1 [UInt8.ofNat a] := by
    refine ⟨rfl, fun q u hu => ⟨_, rfl, Nat.lt_succ_self _, ?_⟩⟩
    rw [Addr.add_lit, cell_of_row _ _ _ _ _ _ (heap_alloc_new W _), Nat.zero_add]
    match q, hu with
    | 0, hu => simp at hu; subst hu; rw [h1 a ha]; rfl
    | q + 1, hu => simp at hu
  exact run_text _ _ _ Try.underlying24 Try.underlying5 Try.underlying9 hs
end Go.Proofs.Ytebiinjcegdmpaa.Ps
