/- commit: the journal is read. No conditions but that it has no more than 2^40 bytes. -/
import Derived.Test.YtpaaafdnkehmfaaCmGain
namespace Go.Proofs.Ytpaaafdnkehmfaa.Vf
open Go.RowKit
set_option maxRecDepth 100000

/-- Files of no name and no bytes. -/
def zf : Nat → List Value
  | 0 => []
  | n + 1 => .string ⟨#[]⟩ :: .slice none 0 0 :: zf n
theorem zf_length : ∀ n, (zf n).length = n * 2
  | 0 => rfl
  | n + 1 => by simp only [zf, List.length_cons, zf_length n]; omega
theorem zf_get : ∀ (n j : Nat), j < n * 2 → (zf n)[j]? = some (if j % 2 = 0 then .string ⟨#[]⟩ else .slice none 0 0)
  | n + 1, 0, _ => rfl
  | n + 1, 1, _ => rfl
  | n + 1, j + 2, h => by
    simp only [zf, List.getElem?_cons_succ]
    rw [zf_get n j (by omega), show (j + 2) % 2 = j % 2 by omega]
theorem zf_made (n : Nat) : (madeCells #[.string ⟨#[]⟩, .slice none 0 0] (n * 2)) = (zf n).toArray := by
  apply Array.toList_inj.1
  apply List.ext_getElem?
  intro j
  have e : (madeCells #[Value.string ⟨#[]⟩, .slice none 0 0] (n * 2)).toList = (List.range (n * 2)).map fun j => (#[Value.string ⟨#[]⟩, .slice none 0 0] : Array Value)[j % 2]! := by
    simp [madeCells]
  rw [e]
  show _ = (zf n)[j]?
  by_cases h : j < n * 2
  · rw [zf_get n j h, List.getElem?_map, List.getElem?_range h, Option.map_some]
    congr 1
    by_cases e : j % 2 = 0
    · rw [if_pos e, e]; rfl
    · rw [if_neg e, show j % 2 = 1 by omega]; rfl
  · rw [List.getElem?_eq_none (l := zf n) (by rw [zf_length]; omega), List.getElem?_eq_none (by simp; omega)]
theorem info_file : (Try.prog.info? 56).map (fun i => (i.zero, i.size, i.bytes)) = some (some (.agg #[.string ⟨#[]⟩, .slice none 0 0]), 2, 40) := by kernel_rfl
theorem make_files (n : Nat) (hn : n ≤ 1000) (W : World) : (Instr.makeSlice 47 (.int .i64 (n : Int)) (.int .i64 (n : Int))).run Try.prog W = .ok (.slice (some ⟨W.heap.size, 0, none⟩) n n) (W.alloc (.cells (zf n).toArray 56)) := by
  obtain ⟨i, hi, hz, hs, hb⟩ := info_parts info_file
  have h := run_make (P := Try.prog) W 47 56 i _ Try.underlying47 hi hz .i64 .i64 n n (by omega) (by omega) (by rw [hb]; omega) (by omega)
  rw [h, hs]
  simp only [Int.toNat_natCast]
  rw [show (Value.agg #[.string ⟨#[]⟩, .slice none 0 0]).cells = #[.string ⟨#[]⟩, .slice none 0 0] from rfl, zf_made]
/-- A block of bytes. -/
def Ud (w : World) (k : Nat) : Prop := ∃ cs fz, w.heap[k]? = some (.cells cs 5 fz)
theorem Ud.eq {w w' : World} {k : Nat} (h : Ud w k) (e : w'.heap[k]? = w.heap[k]?) : Ud w' k := by
  obtain ⟨cs, fz, h⟩ := h
  exact ⟨cs, fz, e.trans h⟩
theorem Ud.kd {w : World} {k : Nat} (h : Ud w k) : Kd w k := by
  obtain ⟨cs, fz, h⟩ := h
  exact ⟨cs, _, fz, h, by decide, by decide⟩
theorem Ud.lt {w : World} {k : Nat} (h : Ud w k) : k < w.heap.size := h.kd.lt
theorem Ud.not {w : World} {k : Nat} {cs : Array Value} {T : TypeId} {fz : Nat × Nat} (h : Ud w k) (hx : w.heap[k]? = some (.cells cs T fz)) : T = 5 := by
  obtain ⟨cs', fz', h⟩ := h
  rw [h] at hx
  injection hx with hx
  injection hx with _ e _
  exact e.symm
/-- Files that were read: cells, bytes in blocks from lo on. -/
def RowQ (w : World) (lo : Nat) : List Value → FL → Prop
  | [], [] => True
  | .string s :: .slice A n c :: vs, x :: r => s = ⟨x.1.toArray⟩ ∧ SeesP w (fun g => lo ≤ g ∧ Ud w g) A n x.2 ∧ n ≤ c ∧ c ≤ maxLen ∧ RowQ w lo vs r
  | _, _ => False
theorem RowQ.keep {w w' : World} {lo : Nat} (hk : ∀ g, lo ≤ g → Ud w g → w'.heap[g]? = w.heap[g]?) : ∀ {vs : List Value} {l : FL}, RowQ w lo vs l → RowQ w' lo vs l
  | [], [], _ => trivial
  | .string _ :: .slice _ _ _ :: _, _ :: _, ⟨h1, h2, h3, h4, h5⟩ => ⟨h1, (h2.keep fun g hg => hk g hg.1 hg.2).more fun g hg => ⟨hg.1, hg.2.eq (hk g hg.1 hg.2)⟩, h3, h4, RowQ.keep hk h5⟩
theorem RowQ.app {w : World} {lo : Nat} : ∀ {vs us : List Value} {s t : FL}, RowQ w lo vs s → RowQ w lo us t → RowQ w lo (vs ++ us) (s ++ t)
  | [], _, [], _, _, h2 => h2
  | .string _ :: .slice _ _ _ :: _, _, _ :: _, _, ⟨h1, h2, h3, h4, h5⟩, h6 => ⟨h1, h2, h3, h4, RowQ.app h5 h6⟩
theorem RowQ.length {w : World} {lo : Nat} : ∀ {vs : List Value} {l : FL}, RowQ w lo vs l → vs.length = l.length * 2
  | [], [], _ => rfl
  | .string _ :: .slice _ _ _ :: _, _ :: _, ⟨_, _, _, _, h5⟩ => by
    have := RowQ.length h5
    simp only [List.length_cons]
    omega
theorem RowQ.get {w : World} {lo : Nat} : ∀ {vs : List Value} {l : FL} (i : Nat) {x : BS × BS}, RowQ w lo vs l → l[i]? = some x → ∃ A n c, vs[i * 2]? = some (.string ⟨x.1.toArray⟩) ∧ vs[i * 2 + 1]? = some (.slice A n c) ∧ SeesP w (fun g => lo ≤ g ∧ Ud w g) A n x.2 ∧ n ≤ c ∧ c ≤ maxLen
  | [], [], _, _, _, h => by simp at h
  | .string _ :: .slice A n c :: _, y :: _, 0, x, ⟨h1, h2, h3, h4, _⟩, h => by
    obtain rfl : y = x := by simpa using h
    exact ⟨A, n, c, by rw [h1]; rfl, rfl, h2, h3, h4⟩
  | .string _ :: .slice _ _ _ :: _, _ :: _, i + 1, x, ⟨_, _, _, _, h5⟩, h => by
    obtain ⟨A, n, c, g1, g2, g3⟩ := RowQ.get i h5 (by simpa using h)
    refine ⟨A, n, c, ?_, ?_, g3⟩
    · rw [show (i + 1) * 2 = i * 2 + 2 by omega]; simpa using g1
    · rw [show (i + 1) * 2 + 1 = i * 2 + 1 + 2 by omega]; simpa using g2
theorem RowQ.fr {w : World} {lo G n : Nat} {vs : List Value} {l : FL} (h : RowQ w lo vs l) (hx : Bx w G vs 56) (hG : lo ≤ G) (hn : n = l.length) : Fr w (fun g => lo ≤ g ∧ Kd w g) (some ⟨G, 0, none⟩) n l :=
  ⟨hn, fun k x hk => by
    obtain ⟨A, n, c, h1, h2, h3, h4⟩ := h.get k hk
    exact ⟨G, 0, A, n, c, rfl, ⟨hG, hx.kd (by decide) (by decide)⟩, by rw [Nat.zero_add, hx.cells]; exact h1, by rw [Nat.zero_add, hx.cells]; exact h2, h3.more fun g hg => ⟨hg.1, hg.2.kd⟩, h4⟩⟩
theorem zf_set {vs : List Value} {l : FL} {w : World} {lo n k : Nat} (h : RowQ w lo vs l) (hk : l.length = k) (hn : k < n) (a : ByteArray) (b : Value) :
    ((vs ++ zf (n - k)).set (k * 2) (.string a)).set (k * 2 + 1) b = (vs ++ [.string a, b]) ++ zf (n - (k + 1)) := by
  have hl := h.length
  rw [show n - k = (n - (k + 1)) + 1 by omega, List.set_append_right _ _ (by omega), show k * 2 - vs.length = 0 by omega, List.set_append_right _ _ (by omega), show k * 2 + 1 - vs.length = 1 by omega, List.append_assoc]
  rfl
/-- What is still to be read, so many done. -/
theorem rdL_snoc : ∀ (n : Nat) (r : BS) (e : Int), rdL (n + 1) r e = ((rdL n r e).1 ++ [((txStep (rdL n r e).2.1 (rdL n r e).2.2).1, (txStep (txStep (rdL n r e).2.1 (rdL n r e).2.2).2.1 (txStep (rdL n r e).2.1 (rdL n r e).2.2).2.2).1)], (txStep (txStep (rdL n r e).2.1 (rdL n r e).2.2).2.1 (txStep (rdL n r e).2.1 (rdL n r e).2.2).2.2).2)
  | 0, r, e => rfl
  | n + 1, r, e => by
    rw [rdL, rdL_snoc n]
    simp only [rdL, List.cons_append]
theorem rdL_length : ∀ (n : Nat) (r : BS) (e : Int), (rdL n r e).1.length = n
  | 0, _, _ => rfl
  | n + 1, r, e => by rw [rdL, List.length_cons, rdL_length n]
theorem Rds.keepB {w w' : World} {g : Nat} {l : BS} {e : Int} (h : Rds w g l e) (hb : Below (g + 1) w w') : Rds w' g l e := by
  have hlt := h.lt
  obtain ⟨A, n, c, h⟩ := h
  exact ⟨A, n, c, (hb.block g (by omega)).trans h.row, h.sees.below (hb.mono (by omega)), h.cap⟩
theorem txStep_le (l : BS) (e : Int) : (txStep l e).1.length ≤ 65535 := by
  have h := rdStep_lt 2 l e
  unfold txStep
  generalize rdStep 2 l e = R at h ⊢
  unfold txNext
  split
  · simp
  · split
    · simp
    · rw [List.length_take]; omega
/-- []byte(s): new memory of bytes. -/
theorem bytes_kd (w : World) (b : BS) (hb : b.length ≤ maxLen) : ∃ c w1, (convert 9 31 (.string ⟨b.toArray⟩)).run Try.prog w = .ok (.slice (some ⟨w.heap.size, 0, none⟩) b.length c) w1 ∧
    (∀ lo, lo ≤ w.heap.size → SeesP w1 (fun g => lo ≤ g ∧ Ud w1 g) (some ⟨w.heap.size, 0, none⟩) b.length b) ∧ b.length ≤ c ∧ c ≤ maxLen ∧ Below w.heap.size w w1 ∧ w.heap.size < w1.heap.size := by
  have hsz : (⟨b.toArray⟩ : ByteArray).size = b.length := by show b.toArray.size = _; rw [List.size_toArray]
  have h := run_bytes_of_string (P := Try.prog) w 9 31 5 ⟨b.toArray⟩ Try.underlying9 Try.underlying31 Try.underlying5
  rw [hsz] at h
  obtain ⟨C, hC⟩ : ∃ C, C = grownCap w b.length 0 5 := ⟨_, rfl⟩
  rw [← hC] at h
  obtain ⟨fz, hfz⟩ : ∃ fz : Nat × Nat, fz = ((bytesRow ⟨b.toArray⟩ C).size, (bytesRow ⟨b.toArray⟩ C).size + 1) := ⟨_, rfl⟩
  rw [← hfz] at h
  have hn : (w.drew.alloc (.cells (bytesRow ⟨b.toArray⟩ C) 5 fz)).heap[w.heap.size]? = some (.cells (bytesRow ⟨b.toArray⟩ C) 5 fz) := at_new w.drew _
  refine ⟨C, _, h, fun lo hlo => ⟨rfl, fun j u hu => ⟨w.heap.size, 0, rfl, ⟨hlo, _, _, hn⟩, ?_⟩⟩, by rw [hC]; exact grownCap_ge _ _ _ _, by rw [hC]; exact grownCap_le_maxLen _ _ _ _ hb, (Below.refl _ _).drew.alloc (Nat.le_refl _) _, by simp⟩
  have hj : j < b.length := (List.getElem?_eq_some_iff.1 hu).1
  rw [cell_of_row _ _ _ _ _ _ hn, Nat.zero_add, bytesRow_at ⟨b.toArray⟩ _ j (by simpa using hj)]
  have e : b[j] = u := by rw [List.getElem?_eq_getElem hj] at hu; simpa using hu
  simp [byt, e]
/-- What was read so far. -/
structure Jr (w0 wr : World) (g G n : Nat) (r : BS) (e : Int) (k : Nat) : Prop where
  rd : Rds wr g (rdL k r e).2.1 (rdL k r e).2.2
  row : ∃ vs, Bx wr G (vs ++ zf (n - k)) 56 ∧ RowQ wr w0.heap.size vs (rdL k r e).1
  below : Below w0.heap.size w0 wr
set_option maxHeartbeats 4000000 in
theorem jread_any (b : BS) (A : Option Addr) (n c : Nat) (w : World) (hS : Sees w w.heap.size A n b) (hn : n ≤ 1099511627776) :
    Calls Try.prog 75 #[.slice A n c] w fun e w' => ∃ A' n' c', e = .returned (.tuple #[.slice A' n' c', .bool (rdOk b)]) ∧ Fr w' (fun g => w.heap.size ≤ g ∧ Kd w' g) A' n' (rdA b).1 ∧ n' ≤ c' ∧ Below w.heap.size w w' := by
  have hnew := Proofs.Ytpaaafdnkehmfaa.new_any n c A b w hS (by omega)
  have hr1 := rdStep_lt 1 b 0
  have HNEW := Lib.hid hnew
  clear hnew hS hn
  obtain ⟨m, hm⟩ : ∃ m, m = (rdStep 1 b 0).1 := ⟨_, rfl⟩
  obtain ⟨r0, hr0⟩ : ∃ r0, r0 = (rdStep 1 b 0).2.1 := ⟨_, rfl⟩
  obtain ⟨e0, he0⟩ : ∃ e0, e0 = (rdStep 1 b 0).2.2 := ⟨_, rfl⟩
  have hA : rdA b = rdL m r0 e0 := by unfold rdA; rw [← hm, ← hr0, ← he0]
  have hm255 : m ≤ 255 := by rw [hm]; omega
  have hmk := make_files m (by omega)
  have hby : ∀ (W : World) (g : Nat), Rds W g b 0 → Calls Try.prog 85 #[.pointer (some ⟨g, 0, none⟩)] W fun en w' => en = .returned (.int .i64 (m : Int)) ∧ ReadPost W w' g r0 e0 := fun W g h => by
    have := byte_any g b 0 W h
    rw [← hm, ← hr0, ← he0] at this
    exact this
  have HA := Lib.hid hA
  have HBY := Lib.hid hby
  clear hr1 hm hr0 he0 hA hby
  go_enter Try.func75, Try.ntmps75
  go_upto_region 3 with (first
    | (go_at_call 84; (with_reducible refine HNEW.out.mono ?_); rintro e w1 ⟨g, rfl, hg, hrd1, hb1⟩; have HRD1 := Lib.hid hrd1; have HB1 := Lib.hid hb1; clear hrd1 hb1)
    | (go_at_call 85; (with_reducible refine (HBY.out _ _ HRD1.out).mono ?_); rintro e w2 ⟨rfl, hp2⟩; have HP2 := Lib.hid hp2; clear hp2))
  clear hmk
  go_wp2_with fail
  obtain ⟨W3, hW3⟩ : ∃ W, W = w2.alloc (Obj.cells (zf m).toArray 56) := ⟨_, rfl⟩
  rw [← hW3]
  have hg1 : g < w1.heap.size := HRD1.out.lt
  have hb2 : Below w1.heap.size w1 w1 := Below.refl _ _
  have hw2 : Below w.heap.size w w2 := HB1.out.trans (HP2.out.below hg (Nat.le_trans hg (Nat.le_of_lt hg1)))
  have hg2 : g < w2.heap.size := HP2.out.rds.lt
  have hbw : Below w2.heap.size w2 W3 := by rw [hW3]; exact (Below.refl _ _).alloc (Nat.le_refl _) _
  have hj0 : Jr w W3 g w2.heap.size m r0 e0 0 := ⟨HP2.out.rds.keep hbw, ⟨[], by rw [hW3]; exact Bx.new w2 _ _, trivial⟩, hw2.trans (hbw.mono hw2.size)⟩
  have HJ0 := Lib.hid hj0
  have HG := Lib.hid (show w.heap.size ≤ w2.heap.size from hw2.size)
  have HG2 := Lib.hid hg2
  have HGW := Lib.hid hg
  clear hg1 hb2 hw2 hbw hj0 hg2 hW3 hg
  generalize w2.heap.size = G at HJ0 HG HG2 ⊢
  go_loopw [14] (fun i wr => ∃ (k : Nat), k ≤ m ∧ i = .int .i64 (k : Int) ∧ Hid (Jr w wr g G m r0 e0 k)) (fun i _ => m - (intOf i).toNat)
  case atStart => exact ⟨0, Nat.zero_le _, rfl, HJ0⟩
  case round =>
    obtain ⟨k, hk, rfl, HJ⟩ := hrel
    by_cases hlt : k < m
    · have hkn : (k : Int) < (m : Int) := by omega
      have hk0 : (0 : Int) ≤ (k : Int) := by omega
      have hsn := rdL_snoc k r0 e0
      obtain ⟨vs, hx, hq⟩ := HJ.out.row
      have hrd := HJ.out.rd
      have hvl := hq.length
      rw [rdL_length] at hvl
      obtain ⟨R, hR⟩ : ∃ R, R = rdL k r0 e0 := ⟨_, rfl⟩
      rw [← hR] at hsn hq hrd
      have hRl : R.1.length = k := by rw [hR, rdL_length]
      obtain ⟨a, ha⟩ : ∃ a, a = txStep R.2.1 R.2.2 := ⟨_, rfl⟩
      rw [← ha] at hsn
      obtain ⟨d, hd⟩ : ∃ d, d = txStep a.2.1 a.2.2 := ⟨_, rfl⟩
      rw [← hd] at hsn
      have ht1 := text_any g _ _ wr hrd
      rw [← ha] at ht1
      have ht2 : ∀ W, Rds W g a.2.1 a.2.2 → Calls Try.prog 86 #[.pointer (some ⟨g, 0, none⟩)] W fun en w' => en = .returned (.string ⟨d.1.toArray⟩) ∧ ReadPost W w' g d.2.1 d.2.2 := fun W h => by
        have := text_any g _ _ W h
        rw [← hd] at this
        exact this
      have hdl : d.1.length ≤ 65535 := by rw [hd]; exact txStep_le _ _
      have HT1 := Lib.hid ht1
      have HT2 := Lib.hid ht2
      have HSN := Lib.hid hsn
      have HX := Lib.hid hx
      have HQ := Lib.hid hq
      have HRL := Lib.hid hRl
      have HVL := Lib.hid hvl
      have HLT := Lib.hid hlt
      have HDL := Lib.hid hdl
      clear ht1 ht2 hsn hx hq hRl hvl hlt hdl ha hd hR hrd
      obtain ⟨a1, ha1⟩ : ∃ a1 : ByteArray, a1 = ⟨a.1.toArray⟩ := ⟨_, rfl⟩
      rw [← ha1] at HT1
      have HA1 := Lib.hid ha1
      clear ha1
      go_upto_region 6 with fail
      go_upto_region 7 with (go_at_call 86; (with_reducible refine HT1.out.mono ?_); rintro e w4 ⟨rfl, hp4⟩; have hx4 : Bx w4 G _ _ := HX.out.eq (hp4.2.block G HX.out.lt (by intro q; injection q with q; have := HG2.out; omega)); have HX4 := Lib.hid hx4; have HP4 := Lib.hid hp4; have c0 : w4.cell? ⟨G, k * 2, none⟩ = some (.string ⟨#[]⟩) := (by rw [hx4.cells, List.getElem?_append_right (by have := HVL.out; omega), show k * 2 - vs.length = 0 by have := HVL.out; omega, zf_get _ _ (by have := HLT.out; omega)]; rfl); have f0 := hx4.free (k * 2); clear hx4 hp4)
      obtain ⟨W5, hW5⟩ : ∃ W, W = w4.setCell ⟨G, k * 2, none⟩ (.string a1) := ⟨_, rfl⟩
      rw [← hW5]
      have hx5 : Bx W5 G _ _ := hW5 ▸ HX4.out.set (k * 2) (.string a1)
      have hm5 : Mv w4 W5 (· = G) := by rw [hW5]; exact Mv.setCell _ _ _
      have hg4 : g < w4.heap.size := HP4.out.rds.lt
      have hr5 : Rds W5 g a.2.1 a.2.2 := Rds.keepB HP4.out.rds (hm5.toB (by omega) fun k e => by have := HG2.out; omega)
      have HX5 := Lib.hid hx5
      have HM5 := Lib.hid hm5
      have HR5 := Lib.hid hr5
      clear hx5 hm5 hr5 hg4 hW5 c0 f0
      go_wp2_with (go_at_call 86; (with_reducible refine (HT2.out _ HR5.out).mono ?_); rintro e w6 ⟨rfl, hp6⟩; have hx6 : Bx w6 G _ _ := HX5.out.eq (hp6.2.block G HX5.out.lt (by intro q; injection q with q; have := HG2.out; omega)); have HX6 := Lib.hid hx6; have HP6 := Lib.hid hp6; obtain ⟨cc, w7, hcv, hsee, hcc, hcm, hb7, hl7⟩ := bytes_kd w6 d.1 (by have := HDL.out; unfold maxLen; omega); have hx7 : Bx w7 G _ _ := hx6.below hb7 hx6.lt; have HX7 := Lib.hid hx7; have c1 : w7.cell? ⟨G, k * 2 + 1, none⟩ = some (.slice none 0 0) := (by rw [hx7.cells, List.getElem?_set_ne (by omega), List.getElem?_append_right (by have := HVL.out; omega), show k * 2 + 1 - vs.length = 1 by have := HVL.out; omega, zf_get _ _ (by have := HLT.out; omega)]; rfl); have f1 := hx7.free (k * 2 + 1); have HSEE := Lib.hid hsee; have HB7 := Lib.hid hb7; have HCC := Lib.hid (And.intro hcc hcm); clear hx6 hp6 hsee hcc hcm hb7 hx7)
      go_roundw
      case rel =>
        refine ⟨k + 1, HLT.out, by go_num, Lib.hid ?_⟩
        have h9 := HX7.out.set (k * 2 + 1) (.slice (some ⟨w6.heap.size, 0, none⟩) d.1.length cc)
        rw [zf_set HQ.out HRL.out HLT.out] at h9
        have m8 : Mv w7 (w7.setCell ⟨G, k * 2 + 1, none⟩ (.slice (some ⟨w6.heap.size, 0, none⟩) d.1.length cc)) (· = G) := Mv.setCell _ _ _
        have g1 : ∀ h, Ud wr h → h ≠ g := fun h hu e => by
          obtain ⟨A', n', c', hrr⟩ := HJ.out.rd
          subst e
          exact absurd (hu.not hrr.row) (by decide)
        have g2 : ∀ h, Ud wr h → h ≠ G := fun h hu e => by
          subst e
          exact absurd (hu.not HX.out) (by decide)
        have k1 : ∀ h, Ud wr h → w7.heap[h]? = wr.heap[h]? := fun h hu => by
          have a1 := HP4.out.2.block h hu.lt (by intro q; injection q with q; exact g1 h hu q)
          have l4 : h < w4.heap.size := (hu.eq a1).lt
          have a2 := HM5.out.block h l4 (g2 h hu)
          have l5 : h < W5.heap.size := Nat.lt_of_lt_of_le l4 HM5.out.size
          have a3 := HP6.out.2.block h l5 (by intro q; injection q with q; exact g1 h hu q)
          have l6 : h < w6.heap.size := Nat.lt_of_lt_of_le l5 HP6.out.2.size
          exact (HB7.out.block h l6).trans (a3.trans (a2.trans a1))
        have s1 : wr.heap.size ≤ w6.heap.size := Nat.le_trans HP4.out.2.size (Nat.le_trans HM5.out.size HP6.out.2.size)
        have lo6 : w.heap.size ≤ w6.heap.size := Nat.le_trans HJ.out.below.size s1
        have q7 : RowQ w7 w.heap.size (vs ++ [.string a1, .slice (some ⟨w6.heap.size, 0, none⟩) d.1.length cc]) (R.1 ++ [(a.1, d.1)]) :=
          (HQ.out.keep fun h _ hu => k1 h hu).app ⟨HA1.out, HSEE.out _ lo6, HCC.out.1, HCC.out.2, trivial⟩
        have gl7 : g < w7.heap.size := Nat.lt_of_lt_of_le HP6.out.rds.lt HB7.out.size
        refine ⟨?_, ⟨_, h9, ?_⟩, ?_⟩
        · rw [HSN.out]
          exact Rds.keepB (HP6.out.rds.keep HB7.out) (m8.toB (by omega) fun k e => by have := HG2.out; omega)
        · rw [HSN.out]
          exact q7.keep fun h _ hu => m8.block h hu.lt fun e => by
            subst e
            exact absurd (hu.not HX7.out) (by decide)
        · have b4 : Below w.heap.size wr w4 := HP4.out.below HGW.out HJ.out.below.size
          have b5 : Below w.heap.size w4 W5 := HM5.out.toB (Nat.le_trans HJ.out.below.size HP4.out.2.size) fun k e => by have := HG.out; omega
          have b6 : Below w.heap.size W5 w6 := HP6.out.below HGW.out (Nat.le_trans (Nat.le_trans HJ.out.below.size HP4.out.2.size) HM5.out.size)
          have b8 : Below w.heap.size w7 _ := m8.toB (Nat.le_trans lo6 HB7.out.size) fun k e => by have := HG.out; omega
          exact ((((HJ.out.below.trans b4).trans b5).trans b6).trans (HB7.out.mono lo6)).trans b8
      case measure => have := HLT.out; simp [intOf]; omega
    · obtain rfl : k = m := by omega
      have hkn : ¬ (k : Int) < (k : Int) := by omega
      obtain ⟨vs, hx, hq⟩ := HJ.out.row
      rw [Nat.sub_self, show zf 0 = [] from rfl, List.append_nil] at hx
      have hfr := hq.fr hx HG.out (rdL_length k r0 e0).symm
      have hrd := HJ.out.rd
      have hbw := HJ.out.below
      rw [← HA.out] at hfr hrd
      have hend := end_any g _ _ wr hrd
      have hchk := check_any (rdA b).1 (some ⟨G, 0, none⟩) k k wr (hfr.more fun g hg => hg.2.lt) (by omega) (Nat.le_refl _)
      have HFR := Lib.hid hfr
      have HBW := Lib.hid hbw
      have HCHK := Lib.hid hchk
      clear hx hq hfr hrd hbw hchk HJ
      by_cases e1 : (rdA b).2.2 = 0 ∧ (rdA b).2.1 = []
      · have e2 : (if (rdA b).2.2 = 0 ∧ (rdA b).2.1 ≠ [] then 9 else (rdA b).2.2) = 0 := by rw [if_neg (fun h => h.2 e1.2)]; exact e1.1
        rw [e2] at hend
        have HEND := Lib.hid hend
        have HRO : Hid (rdOk b = decide (chk (rdA b).1 = 0)) := Lib.hid (by unfold rdOk; simp [e1.1, e1.2])
        clear hend e2 e1
        by_cases e3 : chk (rdA b).1 = 0
        · have HRO2 : Hid (rdOk b = true) := Lib.hid (by rw [HRO.out]; exact decide_eq_true e3)
          rw [e3] at HCHK
          clear e3 HRO
          go_wp2_with (first
            | (go_at_call 87; (with_reducible refine HEND.out.mono ?_); rintro e w8 ⟨rfl, rfl⟩)
            | (go_at_call 54; (with_reducible refine HCHK.out.mono ?_); rintro e w9 ⟨rfl, hb9⟩))
          go_ret2
          exact ⟨_, _, _, by rw [HRO2.out]; rfl, (HFR.out.keep fun g hg => hb9.block g hg.2.lt).more fun g hg => ⟨hg.1, hg.2.eq (hb9.block g hg.2.lt)⟩, Nat.le_refl _, HBW.out.trans (hb9.mono HBW.out.size)⟩
        · have HRO2 : Hid (rdOk b = false) := Lib.hid (by rw [HRO.out]; exact decide_eq_false e3)
          have e3' : (chk (rdA b).1 == 0) = false := by simpa using e3
          clear e3 HRO
          go_wp2_with (first
            | (go_at_call 87; (with_reducible refine HEND.out.mono ?_); rintro e w8 ⟨rfl, rfl⟩)
            | (go_at_call 54; (with_reducible refine HCHK.out.mono ?_); rintro e w9 ⟨rfl, hb9⟩))
          go_ret2
          exact ⟨_, _, _, by rw [HRO2.out]; rfl, (HFR.out.keep fun g hg => hb9.block g hg.2.lt).more fun g hg => ⟨hg.1, hg.2.eq (hb9.block g hg.2.lt)⟩, Nat.le_refl _, HBW.out.trans (hb9.mono HBW.out.size)⟩
      · have HRO2 : Hid (rdOk b = false) := Lib.hid (by unfold rdOk; exact decide_eq_false fun h => e1 ⟨h.1, h.2.1⟩)
        obtain ⟨z, hz⟩ : ∃ z : Int, z = (if (rdA b).2.2 = 0 ∧ (rdA b).2.1 ≠ [] then 9 else (rdA b).2.2) := ⟨_, rfl⟩
        have hz0 : (z == 0) = false := by
          have : z ≠ 0 := by
            rw [hz]
            by_cases e4 : (rdA b).2.2 = 0
            · rw [if_pos ⟨e4, fun e5 => e1 ⟨e4, e5⟩⟩]; decide
            · rw [if_neg fun h => e4 h.1]; exact e4
          simpa using this
        rw [← hz] at hend
        have HEND := Lib.hid hend
        clear hend hz e1 HCHK
        go_wp2_with (go_at_call 87; (with_reducible refine HEND.out.mono ?_); rintro e w8 ⟨rfl, rfl⟩)
        go_ret2
        exact ⟨_, _, _, by rw [HRO2.out]; rfl, HFR.out, Nat.le_refl _, HBW.out⟩
end Go.Proofs.Ytpaaafdnkehmfaa.Vf
