/- TreeChecks, walked. Conditions: fewer than 200 raw edges; numbers within their kind. -/
import Derived.Test.YtkhjpmefekonhaaPlain
import Derived.Test.YtkhjpmefekonhaaLaw2
import Derived.Test.YtkhjpmefekonhaaMake
import Derived.Test.YtkhjpmefekonhaaRaws
import Derived.Test.YtkhjpmefekonhaaInj
import Derived.Test.YtkhjpmefekonhaaNames
import Derived.Deep.OwnRows
import Derived.Laws.OwnMore
namespace Go.Proofs.Ytkhjpmefekonhaa.Jd
open Go.RowKit Go.Proofs.Ytkhjpmefekonhaa.Cl
set_option maxRecDepth 100000

/-- A tree that memory holds, neither too great nor with too long names. -/
structure Okay (w : World) (A : Option Addr) (n c : Nat) (t : Tr) : Prop where
  holds : Holds w w.heap.size A n t
  cap : n ≤ c ∧ c ≤ maxLen
  size : t.size ≤ 4000
  nm : Tr.Nm t
theorem Okay.below {w w' : World} {A : Option Addr} {n c : Nat} {t : Tr} (h : Okay w A n c t) (hb : Below w.heap.size w w') : Okay w' A n c t :=
  ⟨(h.holds.below hb).more hb.size, h.cap, h.size, h.nm⟩
theorem fit_nm : ∀ {t : Tr}, t.Fit → Tr.Nm t
  | .nil, _ => trivial
  | .cons _ _ _, ⟨h1, _, h3, h4⟩ => ⟨h1, fit_nm h3, fit_nm h4⟩
theorem fit_low : ∀ {t : Tr}, t.Fit → t.Low
  | .nil, _ => trivial
  | .cons _ _ _, ⟨_, h2, h3, h4⟩ => ⟨h2, fit_low h3, fit_low h4⟩
theorem okay_check {w : World} {A : Option Addr} {n c : Nat} {t : Tr} (h : Okay w A n c t) : Calls Try.prog 15 #[.slice A n c] w fun e w' => e = .returned (.int .i64 (t.fault : Nat)) ∧ Below w.heap.size w w' := by
  have hl := h.holds.len
  have := check_any A c t w (by rw [← hl]; exact h.holds) (by rw [← hl]; exact h.cap.1) h.cap.2 (by have := h.size; omega) h.nm
  rw [← hl] at this
  exact this
theorem okay_rcheck {w : World} {A : Option Addr} {n c : Nat} {t : Tr} (h : Okay w A n c t) : Calls Try.prog 16 #[.slice A n c] w fun e w' => e = .returned (.int .i64 (t.fault : Nat)) ∧ Below w.heap.size w w' := by
  have hl := h.holds.len
  have hs := h.size
  have := t.len_size
  exact rcheck_any t A n c w.heap.size w h.holds (Nat.le_refl _) (by omega) (low_size t (by omega)) h.nm
theorem conv_two (a b : Nat) (ha : a < 256) (hb : b < 256) (W : World) : (convert 30 9 (.slice (some ⟨W.heap.size, 0, none⟩) 2 2)).run Try.prog (W.alloc (Obj.cells #[Value.int .u8 (a : Int), Value.int .u8 (b : Int)] 5)) = .ok (.string ⟨#[UInt8.ofNat a, UInt8.ofNat b]⟩) (W.alloc (Obj.cells #[Value.int .u8 (a : Int), Value.int .u8 (b : Int)] 5)) := by
  have h1 : ∀ k : Nat, k < 256 → byt (UInt8.ofNat k) = Value.int .u8 (k : Int) := by
    intro k hk
    simp only [byt, UInt8.toNat_ofNat']
    congr 1
    omega
  have hs : Sees (W.alloc (Obj.cells #[Value.int .u8 (a : Int), Value.int .u8 (b : Int)] 5)) (W.heap.size + 1) (some ⟨W.heap.size, 0, none⟩) 2 [UInt8.ofNat a, UInt8.ofNat b] := by
    refine ⟨rfl, fun q u hu => ⟨_, rfl, Nat.lt_succ_self _, ?_⟩⟩
    rw [Addr.add_lit, cell_of_row _ _ _ _ _ _ (heap_alloc_new W _), Nat.zero_add]
    match q, hu with
    | 0, hu => simp at hu; subst hu; rw [h1 a ha]; rfl
    | 1, hu => simp at hu; subst hu; rw [h1 b hb]; rfl
    | q + 2, hu => simp at hu
  exact run_text _ _ _ Try.underlying30 Try.underlying5 Try.underlying9 hs

/-- A tree's edges as what append takes. -/
theorem src_holds {w : World} {B n c : Nat} {A : Option Addr} {t : Tr} (h : Holds w B A n t) : ∃ ys, Src Try.prog 2 27 (.slice A n c) n ys w ∧ RowP w (fun b => b < B) ys t := by
  have key : ∀ (t : Tr) (A : Option Addr) (n : Nat), Holds w B A n t → ∃ ys, ys.length = n * 2 ∧ (∀ u ∈ ys, u.oneCell' = true) ∧ (∀ b o, A = some ⟨b, o, none⟩ → ∀ j u, ys[j]? = some u → w.cell? ⟨b, o + j, none⟩ = some u) ∧ RowP w (fun b => b < B) ys t ∧ (0 < n → ∃ b o, A = some ⟨b, o, none⟩) := by
    intro t
    induction t with
    | nil =>
      intro A n h
      have h : n = 0 := h
      subst h
      exact ⟨[], rfl, fun u hu => (by cases hu), fun _ _ _ j u hu => (by simp at hu), trivial, fun h => absurd h (by omega)⟩
    | cons s k r _ ih =>
      rintro A n ⟨b, o, rfl, hb, hs, ⟨A', n', c', hc, h1, h2, hk⟩, m, rfl, hr⟩
      obtain ⟨ys, e1, e2, e3, e4, _⟩ := ih _ _ hr
      refine ⟨.string s :: .slice A' n' c' :: ys, by simp only [List.length_cons, e1]; omega, ?_, ?_, ⟨rfl, h1, h2, HoldsP.of hk, e4⟩, fun _ => ⟨b, o, rfl⟩⟩
      · intro u hu
        simp only [List.mem_cons] at hu
        rcases hu with rfl | rfl | hu
        · rfl
        · rfl
        · exact e2 u hu
      · intro b' o' e j u hu
        cases e
        match j, hu with
        | 0, hu => simp at hu; subst hu; exact hs
        | 1, hu => simp at hu; subst hu; exact hc
        | j + 2, hu =>
          have := e3 b (o + 2) rfl j u (by simpa using hu)
          rw [show o + (j + 2) = o + 2 + j by omega]
          exact this
  obtain ⟨ys, e1, e2, e3, e4, e5⟩ := key t A n h
  refine ⟨ys, ?_, e4⟩
  rcases Nat.eq_zero_or_pos n with g | g
  · subst g
    have : ys = [] := List.eq_nil_of_length_eq_zero (by omega)
    subst this
    exact src_none w A c
  · obtain ⟨b, o, rfl⟩ := e5 g
    exact src_edges e1 (e3 b o rfl) e2
/-- Trees in a row. -/
theorem forest_all {W : World} {g : Nat} {xs : List Slc} (hx : ∀ x ∈ xs, Okay W x.at_ x.n x.c x.t) (hg : W.heap[g]? = some (.cells (xs.map fun x => Value.slice x.at_ x.n x.c).toArray 27 (0, 0))) :
    ∀ j, j < xs.length → ∃ x : Slc, W.cell? ⟨g, j, none⟩ = some (.slice x.at_ x.n x.c) ∧ Okay W x.at_ x.n x.c x.t := by
  intro j hj
  refine ⟨xs[j], ?_, hx _ (List.getElem_mem hj)⟩
  rw [cell_of_row _ _ _ _ _ _ hg]
  simp [hj]
theorem withT_nm {s : ByteArray} {x : Tr} (hs : s.size ≤ 140737488351232) (hx : Tr.Nm x) : ∀ {t : Tr}, Tr.Nm t → Tr.Nm (t.withT s x)
  | .nil, _ => ⟨hs, hx, trivial⟩
  | .cons s0 k r, ⟨h1, h2, h3⟩ => by
    unfold Tr.withT
    split
    · exact ⟨h1, h2, withT_nm hs hx h3⟩
    · split
      · exact ⟨hs, hx, h3⟩
      · exact ⟨hs, hx, h1, h2, h3⟩
theorem cut30_size (s : ByteArray) : (cut30 s).size ≤ 140737488351232 := by
  unfold cut30
  rw [ByteArray.size_extract]
  omega
theorem makeT_nm (W : Nat) : ∀ (t : Tr) (l d : Nat) (acc : Tr), Tr.Nm acc → Tr.Nm (t.makeT W l d acc)
  | .nil, _, _, _, h => by simpa [Tr.makeT] using h
  | .cons s k r, l, d, acc, h => by
    unfold Tr.makeT
    split
    · exact h
    · exact makeT_nm W r _ _ _ (withT_nm (cut30_size s) (makeT_nm W k _ _ .nil trivial) h)
theorem okay_of {w w' : World} {B n c : Nat} {A : Option Addr} {t : Tr} (h : Holds w B A n t) (hB : B ≤ w.heap.size) (hb : Below w.heap.size w w') (hc : n ≤ c ∧ c ≤ maxLen) (hs : t.size ≤ 4000) (hn : Tr.Nm t) : Okay w' A n c t :=
  ⟨((h.more hB).below hb).more hb.size, hc, hs, hn⟩

/-- make([]byte, n), and the text of it. -/
theorem conv_zeros (n : Nat) (hn : n ≤ 1000) : ∃ (arr : Array Value) (z : ByteArray), z.size = n ∧
    (∀ W : World, (Instr.makeSlice 30 (.int .i64 (n : Int)) (.int .i64 (n : Int))).run Try.prog W = .ok (.slice (some ⟨W.heap.size, 0, none⟩) n n) (W.alloc (.cells arr 5))) ∧
    ∀ W : World, (convert 30 9 (.slice (some ⟨W.heap.size, 0, none⟩) n n)).run Try.prog (W.alloc (.cells arr 5)) = .ok (.string z) (W.alloc (.cells arr 5)) := by
  refine ⟨madeCells #[.int .u8 0] n, ⟨(List.replicate n 0).toArray⟩, by simp [ByteArray.size], fun W => run_make_row' 30 5 (.int .u8 0) 1 Try.underlying30 info_u8 rfl .i64 .i64 n (by omega) (by omega) W, fun W => ?_⟩
  have hs : Sees (W.alloc (.cells (madeCells #[.int .u8 0] n) 5)) (W.heap.size + 1) (some ⟨W.heap.size, 0, none⟩) n (List.replicate n 0) := by
    refine ⟨by simp, fun q u hu => ⟨_, rfl, Nat.lt_succ_self _, ?_⟩⟩
    rw [Addr.add_lit, cell_of_row _ _ _ _ _ _ (heap_alloc_new W _), Nat.zero_add, ← Array.getElem?_toList, toList_madeCells_one]
    rw [List.getElem?_replicate] at hu ⊢
    split at hu
    · rename_i hq
      cases hu
      rw [if_pos hq]; rfl
    · cases hu
  exact run_text _ _ _ Try.underlying30 Try.underlying5 Try.underlying9 hs

set_option maxHeartbeats 4000000 in
theorem treeChecks_walk (r : Tr) (A : Option Addr) (n c : Nat) (a1 a2 a3 : Int) (w : World) (h : Holds w w.heap.size A n r) (hc : n ≤ c) (hm : c ≤ maxLen) (hr : r.len ≤ 140737488351232 ∧ r.Fit) (w1 : (Lit.int .i64 a1).wf = true) (w2 : (Lit.int .i64 a2).wf = true) (w3 : (Lit.int .i64 a3).wf = true) :
    Calls Try.prog 3 #[.slice A n c, .int .i64 a1, .int .i64 a2, .int .i64 a3] w fun e w' => e = .returned (.bool true) ∧ Below w.heap.size w w' := by
  have hK := known_any w
  have hn : n ≤ 140737488351232 := by rw [h.len]; exact hr.1
  have hl := fit_low hr.2
  have hF := fun (W : World) (hW : Below w.heap.size w W) => few_any r A n c w.heap.size W (h.below hW) hW.size hn hl
  by_cases hs : r.count n 200 < 200
  · rw [decide_eq_true hs] at hF
    have hrz := few_yes h.len hs
    have hP := fun (W : World) (hW : Below w.heap.size w W) => plain_any r.size r A n c w.heap.size W (Nat.le_refl _) (h.below hW) hW.size (by omega)
    have hM := fun (W : World) (hW : Below w.heap.size w W) => make_any r.size r A n c w.heap.size 20 8 W (Nat.le_refl _) (h.below hW) hW.size hc hm (by omega) (by omega) (by omega) (by omega) (by omega)
    have hzt := makeT_size (20 : Int).toNat r (20 : Int).toNat (8 : Int).toNat .nil
    obtain ⟨u, hu⟩ : ∃ u, u = r.makeT (20 : Int).toNat (20 : Int).toNat (8 : Int).toNat .nil := ⟨_, rfl⟩
    rw [← hu] at hM hzt
    have HF := Lib.hid hF
    have HP := Lib.hid hP
    have HM := Lib.hid hM
    have Hnm := Lib.hid (fit_nm hr.2)
    have Hzt := Lib.hid hzt
    have hun : Tr.Nm u := by rw [hu]; exact makeT_nm _ _ _ _ .nil trivial
    have Hun := Lib.hid hun
    have Hu := Lib.hid hu
    have hW1 := within_any a1 450 (by omega) (by omega) w1
    have hW2 := within_any a2 16 (by omega) (by omega) w2
    have hW3 := within_any a3 90 (by omega) (by omega) w3
    obtain ⟨m1, hm1, hm1'⟩ : ∃ m : Nat, a1 % 450 = (m : Int) ∧ m ≤ 449 := ⟨(a1 % 450).toNat, by omega, by omega⟩
    obtain ⟨m2, hm2, hm2'⟩ : ∃ m : Nat, a2 % 16 = (m : Int) ∧ m ≤ 15 := ⟨(a2 % 16).toNat, by omega, by omega⟩
    obtain ⟨m3, hm3, hm3'⟩ : ∃ m : Nat, a3 % 90 = (m : Int) ∧ m ≤ 89 := ⟨(a3 % 90).toNat, by omega, by omega⟩
    rw [hm1] at hW1
    rw [hm2] at hW2
    rw [hm3] at hW3
    have HW1 := Lib.hid hW1
    have HW2 := Lib.hid hW2
    have HW3 := Lib.hid hW3
    clear hF hP hM hr hzt hu hun hW1 hW2 hW3 hm1 hm2 hm3 hs h hl
    go_enter Try.func3, Try.ntmps3
    go_wp2_with fail
    refine hK.mono ?_
    rintro e w1 ⟨rfl, hb1⟩
    go_wp2_with fail
    refine (HF.out w1 hb1).mono ?_
    rintro e _ ⟨rfl, rfl⟩
    go_wp2_with fail
    refine (HW1.out _).mono ?_
    rintro e _ ⟨rfl, rfl⟩
    go_wp2_with fail
    refine (HW2.out _).mono ?_
    rintro e _ ⟨rfl, rfl⟩
    go_wp2_with fail
    refine (HW3.out _).mono ?_
    rintro e _ ⟨rfl, rfl⟩
    go_wp2_with fail
    refine (HP.out w1 hb1).mono ?_
    rintro e w2 ⟨A2, c2, vs2, rfl, hE2, hb2⟩
    have HE2 := Lib.hid hE2
    have hb2' := hb1.trans (hb2.mono hb1.size)
    have hn200 : n ≤ 200 := by have := hE2.len; have := r.len_size; omega
    clear hE2
    go_wp2_with fail
    go_loopw [9, 10] (fun v i wr => ∃ (k At' ct : Nat) (At : Option Addr) (vs : List Value) (t : Tr), k ≤ m1 ∧ At' = n + k ∧ i = .int .i64 k ∧ v = .slice At At' ct ∧ Hid (Edg wr w1.heap.size w1.heap.size At At' ct t vs ∧ t.size ≤ 200 + k ∧ Tr.Nm t) ∧ Below w.heap.size w wr ∧ w1.heap.size ≤ wr.heap.size) (fun _ i _ => m1 - (intOf i).toNat)
    case atStart => exact ⟨0, n, c2, A2, vs2, r, Nat.zero_le _, rfl, rfl, rfl, Lib.hid ⟨HE2.out, by omega, Hnm.out⟩, hb2', hb2.size⟩
    case round =>
      obtain ⟨k, nk, ct, At, vs, t, hk, hnk, rfl, rfl, HE, hbw, hsz⟩ := hrel
      have Hnk := Lib.hid hnk
      have hnk2 : nk + 1 ≤ 1099511627776 := by omega
      clear hnk
      by_cases hlt : k < m1
      · have hkn : (k : Int) < (m1 : Int) := by omega
        have hk0 : (0 : Int) ≤ (k : Int) := by omega
        have hk4 : k ≤ 450 := by omega
        have hcv := fun W => conv_two (k / 256) (k % 256) (by omega) (by omega) W
        rw [show ((k / 256 : Nat) : Int) = (k : Int) / 256 by omega, show ((k % 256 : Nat) : Int) = (k : Int) % 256 by omega] at hcv
        obtain ⟨x, hx⟩ : ∃ x : ByteArray, x = ⟨#[UInt8.ofNat (k / 256), UInt8.ofNat (k % 256)]⟩ := ⟨_, rfl⟩
        rw [← hx] at hcv
        have hxs : x.size = 2 := by rw [hx]; rfl
        have hadd := fun W => run_string_add_sum (P := Try.prog) W ⟨#[110]⟩ x (by have : (ByteArray.mk #[110]).size = 1 := rfl; omega)
        obtain ⟨y, hy⟩ : ∃ y : ByteArray, y = ⟨#[110]⟩ ++ x := ⟨_, rfl⟩
        rw [← hy] at hadd
        have hys : y.size ≤ 140737488351232 := by rw [hy, ByteArray.size_append]; have : (ByteArray.mk #[110]).size = 1 := rfl; omega
        have Hlt := Lib.hid hlt
        have hEa := (HE.out.1.below (w' := wr.alloc (Obj.cells #[Value.int .u8 ((k : Int) / 256), Value.int .u8 ((k : Int) % 256)] 5)) ((Below.refl _ _).alloc (Nat.le_refl _) _))
        have hEb := hEa.below (w' := (wr.alloc (Obj.cells #[Value.int .u8 ((k : Int) / 256), Value.int .u8 ((k : Int) % 256)] 5)).alloc (Obj.cells #[Value.string y, Value.slice none 0 0] 32)) ((Below.refl _ _).alloc (Nat.le_refl _) _)
        have HEb := Lib.hid hEb
        clear hx hxs hy hlt hEa hEb
        go_wp2_with (at_builtin; refine wpList_append_row rfl (.tmp 33) (.tmp 43) _ _ rfl elem_edge rfl rfl HEb.out.own (src_edge _ y none 0 0 _ (by simp)) hnk2 (by simp; omega) ?_; intro A4 c4 w4 ho4 hg4 hat4)
        have hP := HEb.out.push (u := .cons y .nil .nil) (us := [.string y, .slice none 0 0]) (RowP.one (show HoldsP _ _ none 0 .nil from rfl) (Nat.le_refl _) (Nat.zero_le _)) ho4 hg4 (fun a ha => (hat4 a ha).imp (fun e => Nat.le_of_eq e.symm) id)
        have hz4 := hg4.size
        simp only [World.size_alloc] at hz4
        have hb4 : Below w.heap.size w w4 := ((hbw.alloc hbw.size _).alloc (by have := hbw.size; simp; omega) _).grown hg4 (by have := hbw.size; simp; omega) (fun q hq => by have := (HEb.out.own.lt q hq).1; have := hb1.size; omega)
        have HP4 := Lib.hid hP
        have hsz2 := HE.out.2.1
        have hnm2 := HE.out.2.2
        clear hP
        go_roundw
        case rel => exact ⟨k + 1, nk + 1, c4, A4, _, _, Hlt.out, by have := Hnk.out; omega, by go_num, rfl, Lib.hid ⟨HP4.out, by rw [appT_size]; simp only [Tr.size]; omega, appT_nm (.cons y .nil .nil) ⟨hys, trivial, trivial⟩ _ hnm2⟩, hb4, by omega⟩
        case measure => have := Hlt.out; simp [intOf]; omega
      · obtain rfl : k = m1 := by omega
        obtain ⟨wo, rfl⟩ : ∃ W, W = wr := ⟨_, rfl⟩
        obtain ⟨arr, z, hz, hmk, hcz⟩ := conv_zeros m3 (by omega)
        have hzs : z.size ≤ 140737488351232 := by omega
        have Hz := Lib.hid hz
        clear hlt hz
        go_wp2_with fail
        obtain ⟨Wx, hWx⟩ : ∃ W, W = (wo.alloc (.cells arr 5)).alloc (Obj.cells #[Value.string z, Value.slice none 0 0] 32) := ⟨_, rfl⟩
        rw [← hWx]
        have HWx := Lib.hid hWx
        clear hWx
        have hbx : Below wo.heap.size wo Wx := by rw [HWx.out]; exact ((Below.refl _ _).alloc (Nat.le_refl _) _).alloc (by simp) _
        have hxg : Wx.heap[wo.heap.size + 1]? = some (Obj.cells #[Value.string z, Value.slice none 0 0] 32) := by
          rw [HWx.out]
          have := heap_alloc_new (wo.alloc (.cells arr 5)) (Obj.cells #[Value.string z, Value.slice none 0 0] 32)
          simpa using this
        have hxl := (Array.getElem?_eq_some_iff.1 hxg).1
        have hok : Okay Wx (some ⟨wo.heap.size + 1, 0, none⟩) 1 1 (.cons z .nil .nil) :=
          ⟨Holds.leaf hxl (by rw [cell_of_row _ _ _ _ _ _ hxg]; rfl) (by rw [cell_of_row _ _ _ _ _ _ hxg]; rfl) rfl, ⟨Nat.le_refl _, by simp [maxLen]⟩, by simp [Tr.size], hzs, trivial, trivial⟩
        have Hok := Lib.hid hok
        have hWs : wo.heap.size ≤ Wx.heap.size := hbx.size
        clear hok hxg hmk hcz
        go_loopw [11, 12] (fun v i wr => ∃ (q : Nat) (A3 : Option Addr) (t3 : Tr), q ≤ m2 ∧ i = .int .i64 q ∧ v = .slice A3 1 1 ∧ Hid (Okay wr A3 1 1 t3 ∧ t3.size ≤ q + 1) ∧ Below Wx.heap.size Wx wr) (fun _ i _ => m2 - (intOf i).toNat)
        case atStart => exact ⟨0, _, _, Nat.zero_le _, rfl, rfl, Lib.hid ⟨Hok.out, by simp [Tr.size]⟩, Below.refl _ _⟩
        case round =>
          obtain ⟨q, A3, t3, hq, rfl, rfl, HO, hbl⟩ := hrel
          by_cases hlq : q < m2
          · have hqn : (q : Int) < (m2 : Int) := by omega
            have Hlq := Lib.hid hlq
            have hq15 : q ≤ 15 := by omega
            clear hlq
            go_wp2_with fail
            have hg : (wr.alloc (Obj.cells #[Value.string ⟨#[100]⟩, Value.slice A3 1 1] 32)).heap[wr.heap.size]? = some (Obj.cells #[Value.string ⟨#[100]⟩, Value.slice A3 1 1] 32) := heap_alloc_new wr _
            have hba : Below wr.heap.size wr (wr.alloc (Obj.cells #[Value.string ⟨#[100]⟩, Value.slice A3 1 1] 32)) := (Below.refl _ _).alloc (Nat.le_refl _) _
            have hO := HO.out.1.below hba
            have hosz := HO.out.2
            have hok : Okay (wr.alloc (Obj.cells #[Value.string ⟨#[100]⟩, Value.slice A3 1 1] 32)) (some ⟨wr.heap.size, 0, none⟩) 1 1 (.cons ⟨#[100]⟩ t3 .nil) :=
              ⟨⟨wr.heap.size, 0, rfl, by simp, by rw [cell_of_row _ _ _ _ _ _ hg]; rfl, ⟨A3, 1, 1, by rw [cell_of_row _ _ _ _ _ _ hg]; rfl, hO.cap.1, hO.cap.2, hO.holds⟩, 0, rfl, rfl⟩, ⟨Nat.le_refl _, by simp [maxLen]⟩, by simp only [Tr.size]; omega, by show (1 : Nat) ≤ _; omega, hO.nm, trivial⟩
            have Hok2 := Lib.hid hok
            clear hok hO hg
            go_roundw
            case rel => exact ⟨q + 1, _, _, Hlq.out, by go_num, rfl, Lib.hid ⟨Hok2.out, by simp only [Tr.size]; omega⟩, hbl.trans (hba.mono hbl.size)⟩
            case measure => have := Hlq.out; simp [intOf]; omega
          · obtain rfl : q = m2 := by omega
            clear hlq
            have hbwr : Below wo.heap.size wo wr := hbx.trans (hbl.mono hWs)
            have hbw2 : Below w.heap.size w wr := hbw.trans (hbwr.mono hbw.size)
            have hHP := HP.out wr hbw2
            have HE1 := Lib.hid (HE.out.1.below hbwr)
            have htz := HE.out.2.1
            have Htn := Lib.hid HE.out.2.2
            clear HE
            go_wp2_with fail
            refine hHP.mono ?_
            rintro e w5 ⟨A5, c5, vs5, rfl, hE5, hb5⟩
            have HE5 := Lib.hid hE5
            have hbw5 := hbw2.trans (hb5.mono hbw2.size)
            have hHM := HM.out w5 hbw5
            clear hHP hE5
            go_wp2_with fail
            refine hHM.mono ?_
            rintro e w6 ⟨A6, n6, c6, rfl, hh6, hn6, hc6, hb6⟩
            have hbw6 := hbw5.trans (hb6.mono hbw5.size)
            have Hh6 := Lib.hid hh6
            have hb16 : Below wr.heap.size wr w6 := hb5.trans (hb6.mono hb5.size)
            have hb67 : Below w6.heap.size w6 (w6.alloc (Obj.cells #[] 32)) := (Below.refl _ _).alloc (Nat.le_refl _) _
            have hE7 : Edg (w6.alloc (Obj.cells #[] 32)) w6.heap.size 0 (some ⟨w6.heap.size, 0, none⟩) 0 0 .nil [] := ⟨World.ownsRow_lit (base := w6.heap.size) (e := 32) (size := 2) w6 #[] 0 (Nat.le_refl _) (Nat.zero_le _) rfl, trivial⟩
            have HO6 := Lib.hid (HO.out.1.below hb16)
            have ht6 : Holds w6 w6.heap.size At nk t := ((HE1.out.holds (Nat.le_refl _)).below hb16).more hb16.size
            obtain ⟨ys1, hs1, hr1⟩ := src_holds (HO6.out.holds.below hb67) (c := 1)
            have hr1' := hr1.more (P' := fun b => 0 ≤ b ∧ b < (w6.alloc (Obj.cells #[] 32)).heap.size ∧ some b ≠ (Value.slice (some ⟨w6.heap.size, 0, none⟩) 0 0).ownBlock) (fun b hb => ⟨Nat.zero_le _, by simp; omega, fun e => by injection e with e; simp only at e; omega⟩)
            have HR1 := Lib.hid hr1'
            have HE7 := Lib.hid hE7
            have hnk4 : 1 + nk ≤ 1099511627776 := by omega
            clear hHM hh6 hr1 hr1' hE7
            go_wp2_with (at_builtin; first | (refine wpList_append_row rfl (.tmp 64) (.tmp 65) _ _ rfl elem_edge rfl rfl HE7.out.own hs1 (by omega) (by simp) ?_; intro A8 c8 w8 ho8 hg8 hat8; have hb68 : Below w6.heap.size w6 w8 := (hb67.grown hg8 (by simp) (fun q hq => (HE7.out.own.lt q hq).1)); have HE8 := Lib.hid (HE7.out.push HR1.out ho8 hg8 (fun a ha => (hat8 a ha).imp (fun e => Nat.le_of_eq e.symm) id)); obtain ⟨ys2, hs2, hr2⟩ := src_holds (c := ct) (ht6.below hb68); have HR2 := Lib.hid (hr2.more (P' := fun b => 0 ≤ b ∧ b < w8.heap.size ∧ some b ≠ (Value.slice A8 (0 + 1) c8).ownBlock) (fun b hb => ⟨Nat.zero_le _, Nat.lt_of_lt_of_le hb hb68.size, fun e => by have := (HE8.out.own.lt b e.symm).1; omega⟩))) | (refine wpList_append_row rfl (.tmp 66) (.tmp 67) _ _ rfl elem_edge rfl rfl HE8.out.own hs2 hnk4 hb68.size ?_; intro A9 c9 w9 ho9 hg9 hat9))
            have HE9 := Lib.hid (HE8.out.push HR2.out ho9 hg9 (fun a ha => (hat9 a ha).imp (fun e => Nat.le_of_eq e.symm) id))
            have hb69 : Below w6.heap.size w6 w9 := hb68.grown hg9 hb68.size (fun q hq => (HE8.out.own.lt q hq).1)
            have hbA : Below w9.heap.size w9 (w9.alloc (Obj.cells #[.slice At nk ct, .slice A3 1 1, .slice A5 n c5, .slice A6 n6 c6, .slice A9 (0 + 1 + nk) c9] 27)) := (Below.refl _ _).alloc (Nat.le_refl _) _
            have hb6A := hb69.trans (hbA.mono hb69.size)
            have hkm : k ≤ 449 := by omega
            have hq16 : t3.size ≤ 16 := by have := HO.out.2; omega
            have hall := forest_all (W := w9.alloc (Obj.cells #[.slice At nk ct, .slice A3 1 1, .slice A5 n c5, .slice A6 n6 c6, .slice A9 (0 + 1 + nk) c9] 27)) (g := w9.heap.size)
              (xs := [⟨At, nk, ct, t⟩, ⟨A3, 1, 1, t3⟩, ⟨A5, n, c5, r⟩, ⟨A6, n6, c6, u⟩, ⟨A9, 0 + 1 + nk, c9, appT (appT .nil t3) t⟩]) (by
                intro x hx
                simp only [List.mem_cons, List.not_mem_nil, or_false] at hx
                rcases hx with rfl | rfl | rfl | rfl | rfl
                · exact okay_of ht6 (Nat.le_refl _) hb6A HE1.out.cap (by show t.size ≤ 4000; omega) Htn.out
                · exact okay_of HO6.out.holds (Nat.le_refl _) hb6A HO6.out.cap HO6.out.size HO6.out.nm
                · exact okay_of ((HE5.out.holds (Nat.le_refl _)).below hb6) hb6.size hb6A HE5.out.cap (by show r.size ≤ 4000; omega) Hnm.out
                · exact okay_of Hh6.out (Nat.le_refl _) hb6A ⟨hn6, hc6⟩ (by have := Hzt.out; simp only [Tr.size] at this; show u.size ≤ 4000; omega) Hun.out
                · exact okay_of (HE9.out.holds (Nat.zero_le _)) (Nat.le_refl _) hbA HE9.out.cap (by rw [appT_size]; simp only [appT]; omega) (appT_nm _ Htn.out _ HO6.out.nm)) (heap_alloc_new w9 _)
            obtain ⟨WA, hWA⟩ : ∃ W, W = w9.alloc (Obj.cells #[.slice At nk ct, .slice A3 1 1, .slice A5 n c5, .slice A6 n6 c6, .slice A9 (0 + 1 + nk) c9] 27) := ⟨_, rfl⟩
            rw [← hWA] at hall hb6A ⊢
            have Hall := Lib.hid hall
            have hg9A : w9.heap.size < WA.heap.size := by rw [hWA]; simp
            have hbwA : Below w.heap.size w WA := hbw6.trans (hb6A.mono hbw6.size)
            obtain ⟨g9, hg9e⟩ : ∃ g, g = w9.heap.size := ⟨_, rfl⟩
            rw [← hg9e] at hg9A Hall ⊢
            clear hall hWA hg9e hbA hs1 hs2 ho8 ho9 hg8 hg9 hat8 hat9 HE1 HE5 HE7 HE8 HE9 HR1 HR2 HO HO6 ht6 Hh6
            go_loopw [14] (fun i wl => ∃ (j : Nat), j ≤ 5 ∧ i = .int .i64 j ∧ Below WA.heap.size WA wl) (fun i _ => 5 - (intOf i).toNat)
            case atStart => exact ⟨0, Nat.zero_le _, rfl, Below.refl _ _⟩
            case round =>
              obtain ⟨j, hj, rfl, hbj⟩ := hrel
              by_cases hlj : j < 5
              · obtain ⟨⟨xa, xn, xc, xt⟩, hcx, hokx⟩ := Hall.out j (by simpa using hlj)
                simp only at hcx hokx
                have hcj := (hbj.cell (p := ⟨g9, j, none⟩) hg9A).trans hcx
                have hj5 : (j : Int) < 5 := by omega
                have hj0 : (0 : Int) ≤ (j : Int) := by omega
                have HC1 := Lib.hid (fun (W : World) (hW : Below WA.heap.size WA W) => okay_check (hokx.below hW))
                have HC2 := Lib.hid (fun (W : World) (hW : Below WA.heap.size WA W) => okay_rcheck (hokx.below hW))
                obtain ⟨f, hf⟩ : ∃ f, f = xt.fault := ⟨_, rfl⟩
                rw [← hf] at HC1 HC2
                have hff : ((f : Int) != (f : Int)) = false := by simp
                have Hlj := Lib.hid hlj
                have Hcx := Lib.hid hcx
                clear hcx hokx hf hlj
                go_wp2_with fail
                go_region_held3 (fun w' => w'.cell? ⟨g9, j, none⟩ = some (.slice xa xn xc)) (first | exact hcj | exact hcj1 | exact hcj2)
                  (first
                  | (go_at_call 15; refine (HC1.out _ hbj.drew).mono ?_; rintro e wy ⟨rfl, hby⟩; have hbj1 := (hbj.drew).trans (hby.mono hbj.size); have hcj1 := (hbj1.cell (p := ⟨g9, j, none⟩) hg9A).trans Hcx.out)
                  | (go_at_call 16; refine (HC2.out _ hbj1).mono ?_; rintro e wz ⟨rfl, hbz⟩; have hbj2 := hbj1.trans (hbz.mono hbj1.size); have hcj2 := (hbj2.cell (p := ⟨g9, j, none⟩) hg9A).trans Hcx.out))
                all_goals
                  go_wp2_with fail
                  go_roundw
                  case rel => exact ⟨j + 1, Hlj.out, by go_num, hbj2⟩
                  case measure => have := Hlj.out; simp [intOf]; omega
              · obtain rfl : j = 5 := by omega
                clear hlj
                go_wp2_with fail
                go_ret
                exact ⟨rfl, hbwA.trans (hbj.mono hbwA.size)⟩
  · rw [decide_eq_false hs] at hF
    have HF := Lib.hid hF
    clear hF hr h hl hs
    go_enter Try.func3, Try.ntmps3
    go_wp2_with fail
    refine hK.mono ?_
    rintro e w1 ⟨rfl, hb1⟩
    go_wp2_with fail
    refine (HF.out w1 hb1).mono ?_
    rintro e _ ⟨rfl, rfl⟩
    go_wp2_with fail
    go_ret
    exact ⟨rfl, hb1⟩
end Go.Proofs.Ytkhjpmefekonhaa.Jd
