/- Trees that few edges were put into, taken out of: how many edges; paths of texts in memory; the texts that csv's Turn takes. No conditions. · csv: how many lines a file has, how many edges its tree; a tree that fits, with rows taken away and one more, fits. No conditions. · csv.Put of any tree into any file. Conditions: the tree's size and names; MaxLen's cell. -/
import Derived.Test.YtkgpjohfkfbfhaaGreatDoorMwRtPutR
import Derived.Test.YtkgpjohfkfbfhaaGreatDoorRcFile
import Derived.Test.YtkgpjohfkfbfhaaGreatDoorRcRowsW
import Derived.Test.YtkgpjohfkfbfhaaGreatDoorMwChkP
namespace Go.Proofs.YtkgpjohfkfbfhaaGreatDoor.Cv
open Go.RowKit Go.Proofs.YtkgpjohfkfbfhaaGreatDoor.Jd Go.Proofs.YtkgpjohfkfbfhaaGreatDoor.Li Go.Proofs.YtkgpjohfkfbfhaaGreatDoor.Pt Go.Proofs.YtkgpjohfkfbfhaaGreatDoor.Cl
set_option maxRecDepth 100000

theorem with_size2 {name : ByteArray} {x : Tr} : ∀ {t : Tr}, (t.withT name x).size + (kidT t name).size ≤ t.size + x.size + 1
  | .nil => by simp [Tr.withT, Tr.size, kidT]
  | .cons s k r => by
    have := with_size2 (name := name) (x := x) (t := r)
    rcases cases3 s name with c1 | ⟨c1, c2⟩ | ⟨c1, c2, _⟩
    · rw [withT_lt c1, kidT_lt c1]; simp only [Tr.size]; omega
    · rw [withT_eq c1 c2, kidT_eq c1 c2]; simp only [Tr.size]; omega
    · rw [withT_gt c1 c2, kidT_gt c1 c2]; simp only [Tr.size]; omega
theorem with_nm2 {s : ByteArray} {x : Tr} (hs : s.size ≤ 140737488351232) (hx : Tr.Nm x) : ∀ {t : Tr}, Tr.Nm t → Tr.Nm (t.withT s x)
  | .nil, _ => ⟨hs, hx, trivial⟩
  | .cons s0 k r, ⟨h1, h2, h3⟩ => by
    unfold Tr.withT
    split
    · exact ⟨h1, h2, with_nm2 hs hx h3⟩
    · split
      · exact ⟨hs, hx, h3⟩
      · exact ⟨hs, hx, h1, h2, h3⟩
theorem kid_nm2 {q : ByteArray} : ∀ {t : Tr}, Tr.Nm t → Tr.Nm (kidT t q)
  | .nil, _ => trivial
  | .cons s k r, ⟨_, h2, h3⟩ => by
    rcases cases3 s q with c1 | ⟨c1, c2⟩ | ⟨c1, c2, _⟩
    · rw [kidT_lt c1]; exact kid_nm2 h3
    · rw [kidT_eq c1 c2]; exact h2
    · rw [kidT_gt c1 c2]; trivial
theorem without_nm2 {q : ByteArray} : ∀ {t : Tr}, Tr.Nm t → Tr.Nm (withoutT t q)
  | .nil, _ => trivial
  | .cons s k r, ⟨h1, h2, h3⟩ => by
    rcases cases3 s q with c1 | ⟨c1, c2⟩ | ⟨c1, c2, _⟩
    · rw [withoutT_lt c1]; exact ⟨h1, h2, without_nm2 h3⟩
    · rw [withoutT_eq c1 c2]; exact h3
    · rw [withoutT_gt c1 c2]; exact ⟨h1, h2, h3⟩
theorem without_size2 {name : ByteArray} : ∀ {t : Tr}, (withoutT t name).size ≤ t.size
  | .nil => Nat.le_refl _
  | .cons s k r => by
    have := without_size2 (name := name) (t := r)
    rcases cases3 s name with c1 | ⟨c1, c2⟩ | ⟨c1, c2, _⟩
    · rw [withoutT_lt c1]; simp only [Tr.size]; omega
    · rw [withoutT_eq c1 c2]; simp only [Tr.size]; omega
    · rw [withoutT_gt c1 c2]; exact Nat.le_refl _
def Tn (K : Nat) (t : Tr) : Prop := t.size ≤ K ∧ Tr.Nm t
def Sz (s : ByteArray) : Prop := s.size ≤ 140737488351232
theorem tn_put1 {K : Nat} {t : Tr} {q : ByteArray} (h : Tn K t) (hq : Sz q) : Tn (K + 3) (putT t [q] .nil) := by
  have h1 := with_size2 (name := q) (x := .nil) (t := t)
  have e : putT t [q] .nil = t.withT q .nil := rfl
  rw [e]
  exact ⟨by simp only [Tr.size] at h1; have := h.1; omega, with_nm2 (x := .nil) hq trivial h.2⟩
theorem tn_put2 {K : Nat} {t : Tr} {q c v : ByteArray} (h : Tn K t) (hq : Sz q) (hc : Sz c) (hv : Sz v) : Tn (K + 3) (putT t [q, c] (.cons v .nil .nil)) := by
  have e : putT t [q, c] (.cons v .nil .nil) = t.withT q ((kidT t q).withT c (.cons v .nil .nil)) := rfl
  rw [e]
  have h1 := with_size2 (name := q) (x := (kidT t q).withT c (.cons v .nil .nil)) (t := t)
  have h2 := with_size2 (name := c) (x := .cons v .nil .nil) (t := kidT t q)
  have h3 := h.1
  simp only [Tr.size] at h2
  exact ⟨by omega, with_nm2 hq (with_nm2 (x := .cons v .nil .nil) hc ⟨hv, trivial, trivial⟩ (kid_nm2 h.2)) h.2⟩
theorem tn_mono {K K' : Nat} {t : Tr} (h : Tn K t) (hk : K ≤ K') : Tn K' t := ⟨Nat.le_trans h.1 hk, h.2⟩
theorem tn_drop1 {K : Nat} {t : Tr} {q : ByteArray} (h : Tn K t) : Tn (K + 3) (dropP t [q]) := by
  unfold dropP
  split
  · exact ⟨by have := without_size2 (name := q) (t := t); have := h.1; omega, without_nm2 h.2⟩
  · exact tn_mono h (by omega)
theorem tn_drop2 {K : Nat} {t : Tr} {q c : ByteArray} (h : Tn K t) (hq : Sz q) : Tn (K + 3) (dropP t [q, c]) := by
  unfold dropP
  split
  · have h1 := with_size2 (name := q) (x := dropP (kidT t q) [c]) (t := t)
    have h2 : (dropP (kidT t q) [c]).size ≤ (kidT t q).size ∧ Tr.Nm (dropP (kidT t q) [c]) := by
      unfold dropP
      split
      · exact ⟨without_size2, without_nm2 (kid_nm2 h.2)⟩
      · exact ⟨Nat.le_refl _, kid_nm2 h.2⟩
    exact ⟨by have := h.1; omega, with_nm2 hq h2.2 h.2⟩
  · exact tn_mono h (by omega)
theorem path1 {V : World} {g : Nat} {q : ByteArray} {e : TypeId} {r : Nat × Nat} (h : V.heap[g]? = some (.cells #[.string q] e r)) : SeesV V V.heap.size (some ⟨g, 0, none⟩) 1 ([q].map Value.string) := by
  refine ⟨rfl, fun j u hu => ⟨g, 0, rfl, (Array.getElem?_eq_some_iff.1 h).1, ?_⟩⟩
  cases j with
  | zero => simp only [List.map_cons, List.getElem?_cons_zero, Option.some.injEq] at hu; subst hu; rw [cell_of_row _ _ _ _ _ _ h]; rfl
  | succ j => simp at hu
theorem path2 {V : World} {g : Nat} {q c : ByteArray} {e : TypeId} {r : Nat × Nat} (h : V.heap[g]? = some (.cells #[.string q, .string c] e r)) : SeesV V V.heap.size (some ⟨g, 0, none⟩) 2 ([q, c].map Value.string) := by
  refine ⟨rfl, fun j u hu => ⟨g, 0, rfl, (Array.getElem?_eq_some_iff.1 h).1, ?_⟩⟩
  match j with
  | 0 => simp only [List.map_cons, List.getElem?_cons_zero, Option.some.injEq] at hu; subst hu; rw [cell_of_row _ _ _ _ _ _ h]; rfl
  | 1 => simp only [List.map_cons, List.getElem?_cons_succ, List.getElem?_cons_zero, Option.some.injEq] at hu; subst hu; rw [cell_of_row _ _ _ _ _ _ h]; rfl
  | j + 2 => simp at hu
theorem rvalueT_any (x : ByteArray) (w : World) : Calls Tryz.prog 29 #[.string x] w (OkP w (.cons x .nil .nil)) :=
  (rvalue3_any x w).mono fun e w' ⟨he, h1, h2, h3⟩ => ⟨some ⟨w.heap.size, 0, none⟩, 1, 1, he, ⟨h1.to (fun b hb => by subst hb; exact h3), Nat.le_refl _, by simp [maxLen]⟩, h2⟩
theorem tdiv_lim {x : Int} (d : Int) (hd : 2 ≤ d) (h : -9223372036854775808 ≤ x ∧ x ≤ 9223372036854775807) : -9223372036854775808 ≤ x.tdiv d ∧ x.tdiv d ≤ 9223372036854775807 ∧ wrap64 (x.tdiv d) = x.tdiv d ∧ IntKind.i64.wrap (x.tdiv d) = x.tdiv d := by
  have h2 : -9223372036854775808 ≤ x.tdiv d ∧ x.tdiv d ≤ 9223372036854775807 := by
    rcases Int.le_total 0 x with h0 | h0
    · rw [Int.tdiv_eq_ediv_of_nonneg h0]
      have h1 := Int.ediv_le_self d h0
      have h2 := Int.ediv_nonneg h0 (show 0 ≤ d by omega)
      omega
    · have e : x.tdiv d = -((-x).tdiv d) := by rw [Int.neg_tdiv, Int.neg_neg]
      rw [e, Int.tdiv_eq_ediv_of_nonneg (by omega)]
      have h1 := Int.ediv_le_self d (show 0 ≤ -x by omega)
      have h2 := Int.ediv_nonneg (show 0 ≤ -x by omega) (show 0 ≤ d by omega)
      omega
  exact ⟨h2.1, h2.2, by unfold wrap64; omega, IntWalk.i64_in _ (by omega)⟩
theorem tab5 (V : World) (g : Nat) (e : TypeId) (hg : V.heap[g]? = some (.cells #[.string ⟨#[97]⟩, .string ⟨#[98, 44, 99]⟩, .string ⟨#[100, 32, 101]⟩, .string ⟨#[102]⟩, .string ⟨#[34, 103, 34]⟩] e (0, 0))) (j : Nat) (y : ByteArray) (hy : (#[Value.string ⟨#[97]⟩, .string ⟨#[98, 44, 99]⟩, .string ⟨#[100, 32, 101]⟩, .string ⟨#[102]⟩, .string ⟨#[34, 103, 34]⟩] : Array Value)[j]? = some (.string y)) : V.cell? ⟨g, j, none⟩ = some (.string y) := by
  rw [cell_of_row _ _ j _ _ _ hg]; exact hy
theorem tab5y (j : Nat) (hj : j < 5) : ∃ y : ByteArray, y.size ≤ 5 ∧ (#[Value.string ⟨#[97]⟩, .string ⟨#[98, 44, 99]⟩, .string ⟨#[100, 32, 101]⟩, .string ⟨#[102]⟩, .string ⟨#[34, 103, 34]⟩] : Array Value)[j]? = some (.string y) := by
  match j, hj with
  | 0, _ => exact ⟨_, by decide, rfl⟩
  | 1, _ => exact ⟨_, by decide, rfl⟩
  | 2, _ => exact ⟨_, by decide, rfl⟩
  | 3, _ => exact ⟨_, by decide, rfl⟩
  | 4, _ => exact ⟨_, by decide, rfl⟩
theorem conv_at48 (i : Nat) (hi : i ≤ 25) (V : World) (g : Nat) (hg : V.heap[g]? = some (Obj.cells #[Value.int .u8 (48 + (i : Int))] 5 (0, 0))) : (convert 27 9 (.slice (some ⟨g, 0, none⟩) 1 1)).run Tryz.prog V = .ok (.string ⟨#[UInt8.ofNat (48 + i)]⟩) V := by
  have hb : byt (UInt8.ofNat (48 + i)) = Value.int .u8 (48 + (i : Int)) := by
    simp only [byt, UInt8.toNat_ofNat']
    congr 1
    omega
  have hs : Sees V (g + 1) (some ⟨g, 0, none⟩) 1 [UInt8.ofNat (48 + i)] := by
    refine ⟨rfl, fun q u hu => ⟨_, rfl, Nat.lt_succ_self _, ?_⟩⟩
    cases q with
    | zero =>
      simp only [List.getElem?_cons_zero, Option.some.injEq] at hu
      subst hu
      rw [Addr.add_lit, cell_of_row _ _ _ _ _ _ hg, hb]
      rfl
    | succ q => simp at hu
  exact run_text _ _ _ Tryz.underlying27 Tryz.underlying5 Tryz.underlying9 hs
theorem u8_small48 (k : Nat) (hk : k ≤ 25) : IntKind.u8.wrap (48 + (k : Int)) = 48 + (k : Int) := by rw [IntKind.wrap_u8]; omega
theorem tab4c (V : World) (g : Nat) (e : TypeId) (hg : V.heap[g]? = some (.cells #[.string ⟨#[107, 101, 121]⟩, .string ⟨#[]⟩, .string ⟨#[97, 10, 98]⟩, .string ⟨#[97, 13]⟩] e (0, 0))) (j : Nat) (y : ByteArray) (hy : (#[Value.string ⟨#[107, 101, 121]⟩, .string ⟨#[]⟩, .string ⟨#[97, 10, 98]⟩, .string ⟨#[97, 13]⟩] : Array Value)[j]? = some (.string y)) : V.cell? ⟨g, j, none⟩ = some (.string y) := by
  rw [cell_of_row _ _ j _ _ _ hg]; exact hy
theorem tab4cy (j : Nat) (hj : j < 4) : ∃ y : ByteArray, y.size ≤ 5 ∧ (#[Value.string ⟨#[107, 101, 121]⟩, .string ⟨#[]⟩, .string ⟨#[97, 10, 98]⟩, .string ⟨#[97, 13]⟩] : Array Value)[j]? = some (.string y) := by
  match j, hj with
  | 0, _ => exact ⟨_, by decide, rfl⟩
  | 1, _ => exact ⟨_, by decide, rfl⟩
  | 2, _ => exact ⟨_, by decide, rfl⟩
  | 3, _ => exact ⟨_, by decide, rfl⟩
theorem drop_w {u : Tr} {A' : Option Addr} {n' c' : Nat} {wa : World} (hT : OkT wa A' n' c' u) (hz : u.size ≤ 430) (q y : ByteArray) :
    (Calls Tryz.prog 21 #[.slice A' n' c', .slice (some ⟨wa.heap.size, 0, none⟩) 1 1] (wa.alloc (Obj.cells #[Value.string q] 9)) (OkP (wa.alloc (Obj.cells #[Value.string q] 9)) (dropP u [q]))) ∧
    (Calls Tryz.prog 21 #[.slice A' n' c', .slice (some ⟨wa.heap.size, 0, none⟩) 2 2] (wa.alloc (Obj.cells #[Value.string q, Value.string y] 9)) (OkP (wa.alloc (Obj.cells #[Value.string q, Value.string y] 9)) (dropP u [q, y]))) :=
  ⟨rdrop_any [q] u A' _ n' c' 1 1 _ (hT.below ((Below.refl _ _).alloc (Nat.le_refl _) _)) (path1 (heap_alloc_new wa _)) (Nat.le_refl _) (by simp) (by omega),
   rdrop_any [q, y] u A' _ n' c' 2 2 _ (hT.below ((Below.refl _ _).alloc (Nat.le_refl _) _)) (path2 (heap_alloc_new wa _)) (Nat.le_refl _) (by simp) (by omega)⟩
theorem put1_w {u : Tr} {A' : Option Addr} {n' c' : Nat} {wa : World} (hT : OkT wa A' n' c' u) (hz : u.size ≤ 430) (q : ByteArray) :
    Calls Tryz.prog 22 #[.slice A' n' c', .slice (some ⟨wa.heap.size, 0, none⟩) 1 1, .slice none 0 0] (wa.alloc (Obj.cells #[Value.string q] 9)) (OkP (wa.alloc (Obj.cells #[Value.string q] 9)) (putT u [q] .nil)) :=
  rput_any [q] u A' _ none n' c' 1 1 0 0 _ (hT.below ((Below.refl _ _).alloc (Nat.le_refl _) _)) ⟨rfl, Nat.le_refl _, Nat.zero_le _⟩ (path1 (heap_alloc_new wa _)) (Nat.le_refl _) (by omega)
theorem put2_w {u : Tr} {A' Av : Option Addr} {n' c' nv cv g : Nat} {q y v : ByteArray} {W : World} {e : TypeId} {r : Nat × Nat} (hT : OkT W A' n' c' u) (hz : u.size ≤ 430) (hg : W.heap[g]? = some (.cells #[.string q, .string y] e r)) (hv : OkT W Av nv cv (.cons v .nil .nil)) :
    Calls Tryz.prog 22 #[.slice A' n' c', .slice (some ⟨g, 0, none⟩) 2 2, .slice Av nv cv] W (OkP W (putT u [q, y] (.cons v .nil .nil))) :=
  rput_any [q, y] u A' _ Av n' c' 2 2 nv cv W hT hv (path2 hg) (Nat.le_refl _) (by omega)
theorem rvalueX_any (x : ByteArray) (w : World) : Calls Tryz.prog 29 #[.string x] w fun e w' => e = .returned (.slice (some ⟨w.heap.size, 0, none⟩) 1 1) ∧ w' = w.alloc (Obj.cells #[Value.string x, Value.slice none 0 0] 53) := by
  go_enter Tryz.func29, Tryz.ntmps29
  go_wp2_with fail
  go_ret
  exact ⟨rfl, rfl⟩
theorem val_ok {W : World} {b : Nat} {x : ByteArray} {e : TypeId} {r : Nat × Nat} (h : W.heap[b]? = some (.cells #[.string x, .slice none 0 0] e r)) : OkT W (some ⟨b, 0, none⟩) 1 1 (.cons x .nil .nil) := by
  have hc := fun i => cell_of_row _ _ i _ _ _ h
  exact ⟨⟨b, 0, rfl, (Array.getElem?_eq_some_iff.1 h).1, hc 0, ⟨none, 0, 0, hc 1, Nat.le_refl _, Nat.zero_le _, rfl⟩, 0, rfl, rfl⟩, Nat.le_refl _, by simp [maxLen]⟩
theorem three_low (w : World) (a b c : Obj) : (((w.alloc a).alloc b).alloc c).heap[w.heap.size]? = some a := by
  rw [heap_alloc_old ((w.alloc a).alloc b) c (Array.getElem?_eq_some_iff.1 (two_low w a b)).1]
  exact two_low w a b
theorem three_mid (w : World) (a b c : Obj) : (((w.alloc a).alloc b).alloc c).heap[w.heap.size + 1]? = some b := by
  rw [heap_alloc_old ((w.alloc a).alloc b) c (Array.getElem?_eq_some_iff.1 (two_high w a b)).1]
  exact two_high w a b
theorem three_high (w : World) (a b c : Obj) : (((w.alloc a).alloc b).alloc c).heap[w.heap.size + 1 + 1]? = some c := by
  have h := two_high (w.alloc a) b c
  rwa [show (w.alloc a).heap.size = w.heap.size + 1 by simp] at h
theorem below3 (w : World) (a b c : Obj) : Below w.heap.size w (((w.alloc a).alloc b).alloc c).drew :=
  ((((Below.refl _ _).alloc (Nat.le_refl _) _).alloc (by simp) _).alloc (by simp; omega) _).drew
def C7 (w : World) (r c : Value) (wx : World) : Prop := ∃ q y : ByteArray, r = .string q ∧ c = .string y ∧ Sz q ∧ Sz y ∧ Below w.heap.size w wx
end Go.Proofs.YtkgpjohfkfbfhaaGreatDoor.Cv
namespace Go.Proofs.YtkgpjohfkfbfhaaGreatDoor.Cv
open Go.RowKit Go.Sort Go.Proofs.YtkgpjohfkfbfhaaGreatDoor.Jd Go.Proofs.YtkgpjohfkfbfhaaGreatDoor.Li Go.Proofs.YtkgpjohfkfbfhaaGreatDoor.Cl Go.Proofs.YtkgpjohfkfbfhaaGreatDoor.Pt
set_option maxRecDepth 100000

theorem len_eds : ∀ t : Tr, t.len = (eds t).length
  | .nil => rfl
  | .cons s k r => by rw [eds, List.length_cons, ← len_eds r, Tr.len]
theorem readF_rows {l : Bs} {hd : Rw} {rs : List Rw} (hr : rowsF [] 0 (split l) = (hd :: rs, 0, 0)) (hl : l.length ≤ 4000) (h : (readF l).2.2 = 0) : (readF l).1 = treeR (hd :: rs) := by
  by_cases h4 : (treeR (hd :: rs)).fault = 0
  · rw [readF_ok hl hr rfl h4]
  · exfalso
    unfold readF at h
    rw [if_neg (by omega), hr, if_neg (fun e => e rfl)] at h
    dsimp only at h
    rw [if_pos h4] at h
    have h5 : (((treeR (hd :: rs)).fault : Nat) : Int) = 0 := h
    exact h4 (by exact_mod_cast h5)
end Go.Proofs.YtkgpjohfkfbfhaaGreatDoor.Cv
namespace Go.Proofs.YtkgpjohfkfbfhaaGreatDoor.Cv
open Go.RowKit Go.Sort Go.Proofs.YtkgpjohfkfbfhaaGreatDoor.Jd Go.Proofs.YtkgpjohfkfbfhaaGreatDoor.Li Go.Proofs.YtkgpjohfkfbfhaaGreatDoor.Cl Go.Proofs.YtkgpjohfkfbfhaaGreatDoor.Pt
set_option maxRecDepth 100000

set_option maxHeartbeats 4000000 in
theorem put_bad (s : ByteArray) (R : Tr × Nat × Int) (A : Option Addr) (n c : Nat) (w : World) (hR : readF s.data.toList = R) (he : R.2.2 ≠ 0) (hG : Gl w) :
    Calls Tryz.prog 15 #[.slice A n c, .string s] w fun e w' => e = .returned (.tuple #[.string ⟨#[]⟩, .int .i64 R.2.2]) ∧ Below w.heap.size w w' := by
  have HR := Lib.hid (read_any s w (fun _ _ z _ => pl_all z) hG)
  rw [hR] at HR
  clear hR hG
  go_enter Tryz.func15, Tryz.ntmps15
  go_wp2_with fail
  (with_reducible refine HR.out.mono ?_)
  rintro e w1 ⟨Ah, Ar, At, nh, ch, nr, cr, ct, ee, rfl, hrd, hb⟩
  have HB := Lib.hid hb
  clear hrd hb
  go_wp2_with fail
  refine bodyPost_ret (v := .tuple #[.string ⟨#[]⟩, .int .i64 R.2.2]) (by simp [results, Tryz.results15, go_sem]) rfl ?_
  exact ⟨rfl, HB.out.alloc HB.out.size _⟩
set_option maxHeartbeats 4000000 in
theorem put_unfit (s : ByteArray) (T : Tr) (t : Tr) (A : Option Addr) (n c : Nat) (w : World) (hR : readF s.data.toList = (T, 0, 0)) (he : fitsC t ≠ 0) (hsz : t.size ≤ 17179869184) (hnm : Tr.Nm t)
    (ht : Holds w w.heap.size A n t) (hn : n ≤ c) (hc : c ≤ maxLen) (hG : Gl w) :
    Calls Tryz.prog 15 #[.slice A n c, .string s] w fun e w' => e = .returned (.tuple #[.string ⟨#[]⟩, .int .i64 (fitsC t)]) ∧ Below w.heap.size w w' := by
  have HR := Lib.hid (read_any s w (fun _ _ z _ => pl_all z) hG)
  rw [hR] at HR
  have HFi := Lib.hid (fun (W : World) (hW : Below w.heap.size w W) => fits_any t A n c W ((ht.below hW).more hW.size) hn hc hsz hnm (plT_all t))
  obtain ⟨E, hE⟩ : ∃ E, E = fitsC t := ⟨_, rfl⟩
  rw [← hE] at HFi he ⊢
  clear hR hG hE ht hnm hsz
  go_enter Tryz.func15, Tryz.ntmps15
  go_wp2_with fail
  (with_reducible refine HR.out.mono ?_)
  rintro e w1 ⟨Ah, Ar, At, nh, ch, nr, cr, ct, ee, rfl, hrd, hb⟩
  have HB2 := Lib.hid (fun o : Obj => (hb.alloc hb.size o : Below w.heap.size w (w1.alloc o)))
  clear hrd hb
  dsimp only
  go_wp2_with fail
  (with_reducible refine (HFi.out _ (HB2.out _)).mono ?_)
  rintro e w2 ⟨rfl, hb2⟩
  have hq2 := (HB2.out _).trans (hb2.mono (HB2.out _).size)
  have Hq2 := Lib.hid hq2
  clear hb2 hq2
  go_wp2_with fail
  refine bodyPost_ret (v := .tuple #[.string ⟨#[]⟩, .int .i64 E]) (by simp [results, Tryz.results15, go_sem]) rfl ?_
  exact ⟨rfl, Hq2.out⟩
set_option maxHeartbeats 4000000 in
theorem put_sound (s : ByteArray) (hd : Rw) (x0 : Ln) (xl : List Ln) (rs : List Rw) (T t : Tr) (A : Option Addr) (n c : Nat) (w : World)
    (hr : readF s.data.toList = (T, 0, 0)) (hrs : (rowsF [] 0 (split s.data.toList)).1 = hd :: rs)
    (hO : PutOk hd x0 xl rs t) (hF : fitsC t = 0) (hnm : Tr.Nm t) (hL : (putB hd xl rs t).length ≤ 140737488355328) (o : Bs × Int)
    (ho : o = if 4000 < (putB hd xl rs t).length then ([], 5) else (putB hd xl rs t, 0))
    (ht : Holds w w.heap.size A n t) (hn : n ≤ c) (hc : c ≤ maxLen) (hG : Gl w) :
    Calls Tryz.prog 15 #[.slice A n c, .string s] w fun e w' => e = .returned (.tuple #[.string (mkB o.1), .int .i64 o.2]) ∧ Below w.heap.size w w' := by
  have hR := read_any s w (fun _ _ z _ => pl_all z) hG
  rw [hr, hrs] at hR
  have HR := Lib.hid hR
  have hFi := fun (W : World) (hW : Below w.heap.size w W) => fits_any t A n c W ((ht.below hW).more hW.size) hn hc (by have := hO.len; omega) hnm (plT_all t)
  rw [hF] at hFi
  have HFi := Lib.hid hFi
  have HPu := Lib.hid (fun (W : World) (hW : Below w.heap.size w W) (Af Ar At : Option Addr) (nf cf nr cr nt ct : Nat) (hf : SeesL W W.heap.size Af nf hd.fs) (hr : SeesR W W.heap.size Ar nr rs) =>
    put_any hd x0 xl rs t Af Ar At A nf cf nr cr nt ct n c W hO hf hr ((ht.below hW).more hW.size) (hG.below hW) hL)
  have e0 : (mkB (putB hd xl rs t)).size = (putB hd xl rs t).length := rfl
  obtain ⟨P, hP⟩ : ∃ P, P = mkB (putB hd xl rs t) := ⟨_, rfl⟩
  have hPo : (4000 < P.size ∧ o = ([], 5)) ∨ (P.size ≤ 4000 ∧ mkB o.1 = P ∧ o.2 = 0) := by
    rw [hP, e0]
    by_cases h4 : 4000 < (putB hd xl rs t).length
    · rw [if_pos h4] at ho; exact .inl ⟨h4, ho⟩
    · rw [if_neg h4] at ho; subst ho; exact .inr ⟨by omega, rfl, rfl⟩
  have HPu2 : Hid (∀ (W : World) (hW : Below w.heap.size w W) (Af Ar At : Option Addr) (nf cf nr cr nt ct : Nat) (hf : SeesL W W.heap.size Af nf hd.fs) (hr : SeesR W W.heap.size Ar nr rs),
      Calls Tryz.prog 38 #[.agg #[.slice Af nf cf, .string hd.en, .slice Ar nr cr, .slice At nt ct], .slice A n c] W fun e w' => e = .returned (.string P) ∧ Below W.heap.size W w') := by
    rw [hP]; exact HPu
  clear hR hr hrs hO hF hnm hL ho ht hn hc hG hFi HPu hP e0
  rcases hPo with ⟨hlong, rfl⟩ | ⟨hshort, ho1, ho2⟩
  · have hj : ¬ ((P.size : Int) ≤ 4000) := by omega
    go_enter Tryz.func15, Tryz.ntmps15
    go_wp2_with fail
    (with_reducible refine HR.out.mono ?_)
    rintro e w1 ⟨Ah, Ar, At, nh, ch, nr, cr, ct, ee, rfl, hrd, hb⟩
    obtain ⟨h, t', e1, e2, _, _, _, _, hs1, hs2⟩ := hrd.rows rfl
    injection e1 with e1 e3
    subst e1; subst e3; subst e2
    have hs1' := hs1.sees (B := w1.heap.size) (fun b hb => hb.2)
    have hs2' := hs2.sees (B := w1.heap.size) (fun b hb => hb.2)
    have HS1 := Lib.hid hs1'
    have HS2 := Lib.hid hs2'
    have HB := Lib.hid hb
    clear hs1 hs2 hs1' hs2' hrd hb
    dsimp only
    have hb2 : ∀ o : Obj, Below w.heap.size w (w1.alloc o) := fun o => HB.out.alloc HB.out.size o
    have HB2 := Lib.hid hb2
    clear hb2
    go_wp2_with fail
    (with_reducible refine (HFi.out _ (HB2.out _)).mono ?_)
    rintro e w2 ⟨rfl, hb2⟩
    have hg2 := (hb2.block w1.heap.size (by simp)).trans (heap_alloc_new w1 _)
    have c0 := cell_of_row _ w1.heap.size 0 _ _ _ hg2
    have c1 := cell_of_row _ w1.heap.size 1 _ _ _ hg2
    have c2 := cell_of_row _ w1.heap.size 2 _ _ _ hg2
    have c3 := cell_of_row _ w1.heap.size 3 _ _ _ hg2
    have hw12 : Below w1.heap.size w1 w2 := ((Below.refl w1.heap.size w1).alloc (Nat.le_refl _) _).trans (hb2.mono (by simp))
    have hq2 := HB.out.trans (hw12.mono HB.out.size)
    have HP := Lib.hid (HPu2.out w2 hq2 Ah Ar At nh ch nr cr T.len ct ((HS1.out.below hw12).more hw12.size) (seesR_more (HS2.out.below hw12) hw12.size))
    have Hq2 := Lib.hid hq2
    clear hb2 hg2 hw12 hq2
    go_wp2_with fail
    (with_reducible refine HP.out.mono ?_)
    rintro e w3 ⟨rfl, hb3⟩
    go_wp2_with fail
    refine bodyPost_ret (v := .tuple #[.string ⟨#[]⟩, .int .i64 5]) (by simp [results, Tryz.results15, go_sem]) rfl ?_
    exact ⟨rfl, Hq2.out.trans (hb3.mono Hq2.out.size)⟩
  · have hj : (P.size : Int) ≤ 4000 := by omega
    rw [ho1, ho2]
    go_enter Tryz.func15, Tryz.ntmps15
    go_wp2_with fail
    (with_reducible refine HR.out.mono ?_)
    rintro e w1 ⟨Ah, Ar, At, nh, ch, nr, cr, ct, ee, rfl, hrd, hb⟩
    obtain ⟨h, t', e1, e2, _, _, _, _, hs1, hs2⟩ := hrd.rows rfl
    injection e1 with e1 e3
    subst e1; subst e3; subst e2
    have hs1' := hs1.sees (B := w1.heap.size) (fun b hb => hb.2)
    have hs2' := hs2.sees (B := w1.heap.size) (fun b hb => hb.2)
    have HS1 := Lib.hid hs1'
    have HS2 := Lib.hid hs2'
    have HB := Lib.hid hb
    clear hs1 hs2 hs1' hs2' hrd hb
    dsimp only
    have hb2 : ∀ o : Obj, Below w.heap.size w (w1.alloc o) := fun o => HB.out.alloc HB.out.size o
    have HB2 := Lib.hid hb2
    clear hb2
    go_wp2_with fail
    (with_reducible refine (HFi.out _ (HB2.out _)).mono ?_)
    rintro e w2 ⟨rfl, hb2⟩
    have hg2 := (hb2.block w1.heap.size (by simp)).trans (heap_alloc_new w1 _)
    have c0 := cell_of_row _ w1.heap.size 0 _ _ _ hg2
    have c1 := cell_of_row _ w1.heap.size 1 _ _ _ hg2
    have c2 := cell_of_row _ w1.heap.size 2 _ _ _ hg2
    have c3 := cell_of_row _ w1.heap.size 3 _ _ _ hg2
    have hw12 : Below w1.heap.size w1 w2 := ((Below.refl w1.heap.size w1).alloc (Nat.le_refl _) _).trans (hb2.mono (by simp))
    have hq2 := HB.out.trans (hw12.mono HB.out.size)
    have HP := Lib.hid (HPu2.out w2 hq2 Ah Ar At nh ch nr cr T.len ct ((HS1.out.below hw12).more hw12.size) (seesR_more (HS2.out.below hw12) hw12.size))
    have Hq2 := Lib.hid hq2
    clear hb2 hg2 hw12 hq2
    go_wp2_with fail
    (with_reducible refine HP.out.mono ?_)
    rintro e w3 ⟨rfl, hb3⟩
    go_wp2_with fail
    refine bodyPost_ret (v := .tuple #[.string P, .int .i64 0]) (by simp [results, Tryz.results15, go_sem]) rfl ?_
    exact ⟨rfl, Hq2.out.trans (hb3.mono Hq2.out.size)⟩
theorem putR_any (s : ByteArray) (t : Tr) (A : Option Addr) (n c : Nat) (w : World) (hsz : t.size ≤ 17179869184) (hnm : Tr.Nm t)
    (ht : Holds w w.heap.size A n t) (hn : n ≤ c) (hc : c ≤ maxLen) (hG : Gl w) :
    Calls Tryz.prog 15 #[.slice A n c, .string s] w fun e w' => e = .returned (.tuple #[.string (mkB (putR t s.data.toList).1), .int .i64 (putR t s.data.toList).2]) ∧ Below w.heap.size w w' := by
  by_cases h1 : (readF s.data.toList).2.2 ≠ 0
  · have e : putR t s.data.toList = ([], (readF s.data.toList).2.2) := by unfold putR; rw [if_pos h1]
    rw [e]
    exact put_bad s _ A n c w rfl h1 hG
  have h1' : (readF s.data.toList).2.2 = 0 := Decidable.not_not.1 h1
  obtain ⟨hl, h0, hd, x0, xl, rs, hr, hh⟩ := read_inv h1'
  obtain ⟨R, hR⟩ : ∃ R, R = readF s.data.toList := ⟨_, rfl⟩
  have h1 : ¬ R.2.2 ≠ 0 := by rw [hR]; exact h1
  rw [← hR] at h1' h0
  obtain ⟨T, i, z⟩ := R
  dsimp only at h1' h0
  subst h1'; subst h0
  by_cases h2 : fitsC t ≠ 0
  · have e : putR t s.data.toList = ([], fitsC t) := by unfold putR; rw [← hR, if_neg h1, if_pos h2]
    rw [e]
    exact put_unfit s T t A n c w hR.symm h2 hsz hnm ht hn hc hG
  have h2' : fitsC t = 0 := Decidable.not_not.1 h2
  have hO := put_ok hl hr hh h2'
  have e : hd.fs.tail = xl := by rw [hh]; rfl
  have hfo := file_ok hr hh
  refine put_sound s hd x0 xl rs T t A n c w hR.symm (by rw [hr]) hO h2' hnm (putB_le hO fun r hr => ?_) _ ?_ ht hn hc hG
  · rcases hfo.ends r hr with (e | e) | e <;> rw [e] <;> decide
  · unfold putR
    rw [← hR, if_neg h1, if_neg h2, hr]
    dsimp only
    rw [e]
end Go.Proofs.YtkgpjohfkfbfhaaGreatDoor.Cv
