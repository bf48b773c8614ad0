/- Trees that few edges were put into, taken out of: how many edges; paths of texts in memory; the texts that ini's Turn takes. No conditions. · ini: Put's and Create's contracts told of bytes; bounds of what is read; texts as bytes in memory. Conditions: as Put's. · The reference's words of lines and of csv: has a text a 13; bare, plain texts; columns, values. Conditions: texts below 2^47 bytes. · The law's files of ini: File answers a text; how long it may be. Conditions: none. -/
import Derived.Test.YtapgaglkkgbgkaaGreatDoorMwNamesMath
import Derived.Test.YtapgaglkkgbgkaaGreatDoorMwInTb
import Derived.Test.YtapgaglkkgbgkaaGreatDoorMwInRead
import Derived.Test.YtapgaglkkgbgkaaGreatDoorMwInSelf
import Derived.Laws.IdiomStrings
import Derived.Test.YtapgaglkkgbgkaaGreatDoorMwRcRows
import Derived.Deep.QuietTactic
import Derived.BigQuiet
import Derived.IntWalk
import Derived.Outline
import Derived.Deep.RegionHeld3
import Derived.Deep.CutRange
namespace Go.Proofs.YtapgaglkkgbgkaaGreatDoor.In
open Go.RowKit Go.Proofs.YtapgaglkkgbgkaaGreatDoor.Jd Go.Proofs.YtapgaglkkgbgkaaGreatDoor.Li Go.Proofs.YtapgaglkkgbgkaaGreatDoor.Pt Go.Proofs.YtapgaglkkgbgkaaGreatDoor.Cl
set_option maxRecDepth 100000

theorem u8_small (k : Nat) (hk : k ≤ 25) : IntKind.u8.wrap (97 + (k : Int)) = 97 + (k : Int) := by rw [IntKind.wrap_u8]; omega
theorem conv_at (i : Nat) (hi : i ≤ 25) (V : World) (g : Nat) (hg : V.heap[g]? = some (Obj.cells #[Value.int .u8 (97 + (i : Int))] 5 (0, 0))) : (convert 26 9 (.slice (some ⟨g, 0, none⟩) 1 1)).run Tryz.prog V = .ok (.string ⟨#[UInt8.ofNat (97 + i)]⟩) V := by
  have hb : byt (UInt8.ofNat (97 + i)) = Value.int .u8 (97 + (i : Int)) := by
    simp only [byt, UInt8.toNat_ofNat']
    congr 1
    omega
  have hs : Sees V (g + 1) (some ⟨g, 0, none⟩) 1 [UInt8.ofNat (97 + i)] := by
    refine ⟨rfl, fun q u hu => ⟨_, rfl, Nat.lt_succ_self _, ?_⟩⟩
    cases q with
    | zero =>
      simp only [List.getElem?_cons_zero, Option.some.injEq] at hu
      subst hu
      rw [Addr.add_lit, cell_of_row _ _ _ _ _ _ hg, hb]
      rfl
    | succ q => simp at hu
  exact run_text _ _ _ Tryz.underlying26 Tryz.underlying5 Tryz.underlying9 hs
theorem two_low (w : World) (a b : Obj) : ((w.alloc a).alloc b).heap[w.heap.size]? = some a := by
  rw [heap_alloc_old (w.alloc a) b (Array.getElem?_eq_some_iff.1 (heap_alloc_new w a)).1]
  exact heap_alloc_new w a
theorem two_high (w : World) (a b : Obj) : ((w.alloc a).alloc b).heap[w.heap.size + 1]? = some b := by
  have h := heap_alloc_new (w.alloc a) b
  rwa [show (w.alloc a).heap.size = w.heap.size + 1 by simp] at h
theorem with_size2 {name : ByteArray} {x : Tr} : ∀ {t : Tr}, (t.withT name x).size + (kidT t name).size ≤ t.size + x.size + 1
  | .nil => by simp [Tr.withT, Tr.size, kidT]
  | .cons s k r => by
    have := with_size2 (name := name) (x := x) (t := r)
    rcases cases3 s name with c1 | ⟨c1, c2⟩ | ⟨c1, c2, _⟩
    · rw [withT_lt c1, kidT_lt c1]; simp only [Tr.size]; omega
    · rw [withT_eq c1 c2, kidT_eq c1 c2]; simp only [Tr.size]; omega
    · rw [withT_gt c1 c2, kidT_gt c1 c2]; simp only [Tr.size]; omega
theorem with_nm2 {s : ByteArray} {x : Tr} (hs : s.size ≤ 140737488351232) (hx : Tr.Nm x) : ∀ {t : Tr}, Tr.Nm t → Tr.Nm (t.withT s x)
  | .nil, _ => ⟨hs, hx, trivial⟩
  | .cons s0 k r, ⟨h1, h2, h3⟩ => by
    unfold Tr.withT
    split
    · exact ⟨h1, h2, with_nm2 hs hx h3⟩
    · split
      · exact ⟨hs, hx, h3⟩
      · exact ⟨hs, hx, h1, h2, h3⟩
theorem kid_nm2 {q : ByteArray} : ∀ {t : Tr}, Tr.Nm t → Tr.Nm (kidT t q)
  | .nil, _ => trivial
  | .cons s k r, ⟨_, h2, h3⟩ => by
    rcases cases3 s q with c1 | ⟨c1, c2⟩ | ⟨c1, c2, _⟩
    · rw [kidT_lt c1]; exact kid_nm2 h3
    · rw [kidT_eq c1 c2]; exact h2
    · rw [kidT_gt c1 c2]; trivial
theorem without_nm2 {q : ByteArray} : ∀ {t : Tr}, Tr.Nm t → Tr.Nm (withoutT t q)
  | .nil, _ => trivial
  | .cons s k r, ⟨h1, h2, h3⟩ => by
    rcases cases3 s q with c1 | ⟨c1, c2⟩ | ⟨c1, c2, _⟩
    · rw [withoutT_lt c1]; exact ⟨h1, h2, without_nm2 h3⟩
    · rw [withoutT_eq c1 c2]; exact h3
    · rw [withoutT_gt c1 c2]; exact ⟨h1, h2, h3⟩
theorem without_size2 {name : ByteArray} : ∀ {t : Tr}, (withoutT t name).size ≤ t.size
  | .nil => Nat.le_refl _
  | .cons s k r => by
    have := without_size2 (name := name) (t := r)
    rcases cases3 s name with c1 | ⟨c1, c2⟩ | ⟨c1, c2, _⟩
    · rw [withoutT_lt c1]; simp only [Tr.size]; omega
    · rw [withoutT_eq c1 c2]; simp only [Tr.size]; omega
    · rw [withoutT_gt c1 c2]; exact Nat.le_refl _
def Tn (K : Nat) (t : Tr) : Prop := t.size ≤ K ∧ Tr.Nm t
def SzT (s : ByteArray) : Prop := s.size ≤ 140737488351232
theorem tn_put1 {K : Nat} {t : Tr} {q : ByteArray} (h : Tn K t) (hq : SzT q) : Tn (K + 3) (putT t [q] .nil) := by
  have h1 := with_size2 (name := q) (x := .nil) (t := t)
  have e : putT t [q] .nil = t.withT q .nil := rfl
  rw [e]
  exact ⟨by simp only [Tr.size] at h1; have := h.1; omega, with_nm2 (x := .nil) hq trivial h.2⟩
theorem tn_put2 {K : Nat} {t : Tr} {q c v : ByteArray} (h : Tn K t) (hq : SzT q) (hc : SzT c) (hv : SzT v) : Tn (K + 3) (putT t [q, c] (.cons v .nil .nil)) := by
  have e : putT t [q, c] (.cons v .nil .nil) = t.withT q ((kidT t q).withT c (.cons v .nil .nil)) := rfl
  rw [e]
  have h1 := with_size2 (name := q) (x := (kidT t q).withT c (.cons v .nil .nil)) (t := t)
  have h2 := with_size2 (name := c) (x := .cons v .nil .nil) (t := kidT t q)
  have h3 := h.1
  simp only [Tr.size] at h2
  exact ⟨by omega, with_nm2 hq (with_nm2 (x := .cons v .nil .nil) hc ⟨hv, trivial, trivial⟩ (kid_nm2 h.2)) h.2⟩
theorem tn_mono {K K' : Nat} {t : Tr} (h : Tn K t) (hk : K ≤ K') : Tn K' t := ⟨Nat.le_trans h.1 hk, h.2⟩
theorem tn_drop1 {K : Nat} {t : Tr} {q : ByteArray} (h : Tn K t) : Tn (K + 3) (dropP t [q]) := by
  unfold dropP
  split
  · exact ⟨by have := without_size2 (name := q) (t := t); have := h.1; omega, without_nm2 h.2⟩
  · exact tn_mono h (by omega)
theorem tn_drop2 {K : Nat} {t : Tr} {q c : ByteArray} (h : Tn K t) (hq : SzT q) : Tn (K + 3) (dropP t [q, c]) := by
  unfold dropP
  split
  · have h1 := with_size2 (name := q) (x := dropP (kidT t q) [c]) (t := t)
    have h2 : (dropP (kidT t q) [c]).size ≤ (kidT t q).size ∧ Tr.Nm (dropP (kidT t q) [c]) := by
      unfold dropP
      split
      · exact ⟨without_size2, without_nm2 (kid_nm2 h.2)⟩
      · exact ⟨Nat.le_refl _, kid_nm2 h.2⟩
    exact ⟨by have := h.1; omega, with_nm2 hq h2.2 h.2⟩
  · exact tn_mono h (by omega)
theorem path1 {V : World} {g : Nat} {q : ByteArray} {e : TypeId} {r : Nat × Nat} (h : V.heap[g]? = some (.cells #[.string q] e r)) : SeesV V V.heap.size (some ⟨g, 0, none⟩) 1 ([q].map Value.string) := by
  refine ⟨rfl, fun j u hu => ⟨g, 0, rfl, (Array.getElem?_eq_some_iff.1 h).1, ?_⟩⟩
  cases j with
  | zero => simp only [List.map_cons, List.getElem?_cons_zero, Option.some.injEq] at hu; subst hu; rw [cell_of_row _ _ _ _ _ _ h]; rfl
  | succ j => simp at hu
theorem path2 {V : World} {g : Nat} {q c : ByteArray} {e : TypeId} {r : Nat × Nat} (h : V.heap[g]? = some (.cells #[.string q, .string c] e r)) : SeesV V V.heap.size (some ⟨g, 0, none⟩) 2 ([q, c].map Value.string) := by
  refine ⟨rfl, fun j u hu => ⟨g, 0, rfl, (Array.getElem?_eq_some_iff.1 h).1, ?_⟩⟩
  match j with
  | 0 => simp only [List.map_cons, List.getElem?_cons_zero, Option.some.injEq] at hu; subst hu; rw [cell_of_row _ _ _ _ _ _ h]; rfl
  | 1 => simp only [List.map_cons, List.getElem?_cons_succ, List.getElem?_cons_zero, Option.some.injEq] at hu; subst hu; rw [cell_of_row _ _ _ _ _ _ h]; rfl
  | j + 2 => simp at hu
theorem rvalueT_any (x : ByteArray) (w : World) : Calls Tryz.prog 32 #[.string x] w (Pt.OkP w (.cons x .nil .nil)) :=
  (rvalue3_any x w).mono fun e w' ⟨he, h1, h2, h3⟩ => ⟨some ⟨w.heap.size, 0, none⟩, 1, 1, he, ⟨h1.to (fun b hb => by subst hb; exact h3), Nat.le_refl _, by simp [maxLen]⟩, h2⟩
theorem tdiv_lim {x : Int} (d : Int) (hd : 2 ≤ d) (h : -9223372036854775808 ≤ x ∧ x ≤ 9223372036854775807) : -9223372036854775808 ≤ x.tdiv d ∧ x.tdiv d ≤ 9223372036854775807 ∧ wrap64 (x.tdiv d) = x.tdiv d ∧ IntKind.i64.wrap (x.tdiv d) = x.tdiv d := by
  have h2 : -9223372036854775808 ≤ x.tdiv d ∧ x.tdiv d ≤ 9223372036854775807 := by
    rcases Int.le_total 0 x with h0 | h0
    · rw [Int.tdiv_eq_ediv_of_nonneg h0]
      have h1 := Int.ediv_le_self d h0
      have h2 := Int.ediv_nonneg h0 (show 0 ≤ d by omega)
      omega
    · have e : x.tdiv d = -((-x).tdiv d) := by rw [Int.neg_tdiv, Int.neg_neg]
      rw [e, Int.tdiv_eq_ediv_of_nonneg (by omega)]
      have h1 := Int.ediv_le_self d (show 0 ≤ -x by omega)
      have h2 := Int.ediv_nonneg (show 0 ≤ -x by omega) (show 0 ≤ d by omega)
      omega
  exact ⟨h2.1, h2.2, by unfold wrap64; omega, IntWalk.i64_in _ (by omega)⟩
theorem conv_at48 (i : Nat) (hi : i ≤ 25) (V : World) (g : Nat) (hg : V.heap[g]? = some (Obj.cells #[Value.int .u8 (48 + (i : Int))] 5 (0, 0))) : (convert 26 9 (.slice (some ⟨g, 0, none⟩) 1 1)).run Tryz.prog V = .ok (.string ⟨#[UInt8.ofNat (48 + i)]⟩) V := by
  have hb : byt (UInt8.ofNat (48 + i)) = Value.int .u8 (48 + (i : Int)) := by
    simp only [byt, UInt8.toNat_ofNat']
    congr 1
    omega
  have hs : Sees V (g + 1) (some ⟨g, 0, none⟩) 1 [UInt8.ofNat (48 + i)] := by
    refine ⟨rfl, fun q u hu => ⟨_, rfl, Nat.lt_succ_self _, ?_⟩⟩
    cases q with
    | zero =>
      simp only [List.getElem?_cons_zero, Option.some.injEq] at hu
      subst hu
      rw [Addr.add_lit, cell_of_row _ _ _ _ _ _ hg, hb]
      rfl
    | succ q => simp at hu
  exact run_text _ _ _ Tryz.underlying26 Tryz.underlying5 Tryz.underlying9 hs
theorem u8_small48 (k : Nat) (hk : k ≤ 25) : IntKind.u8.wrap (48 + (k : Int)) = 48 + (k : Int) := by rw [IntKind.wrap_u8]; omega
theorem drop_w {u : Tr} {A' : Option Addr} {n' c' : Nat} {wa : World} (hT : OkT wa A' n' c' u) (hz : u.size ≤ 430) (q y : ByteArray) :
    (Calls Tryz.prog 30 #[.slice A' n' c', .slice (some ⟨wa.heap.size, 0, none⟩) 1 1] (wa.alloc (Obj.cells #[Value.string q] 9)) (Pt.OkP (wa.alloc (Obj.cells #[Value.string q] 9)) (dropP u [q]))) ∧
    (Calls Tryz.prog 30 #[.slice A' n' c', .slice (some ⟨wa.heap.size, 0, none⟩) 2 2] (wa.alloc (Obj.cells #[Value.string q, Value.string y] 9)) (Pt.OkP (wa.alloc (Obj.cells #[Value.string q, Value.string y] 9)) (dropP u [q, y]))) :=
  ⟨rdrop_any [q] u A' _ n' c' 1 1 _ (hT.below ((Below.refl _ _).alloc (Nat.le_refl _) _)) (path1 (heap_alloc_new wa _)) (Nat.le_refl _) (by simp) (by omega),
   rdrop_any [q, y] u A' _ n' c' 2 2 _ (hT.below ((Below.refl _ _).alloc (Nat.le_refl _) _)) (path2 (heap_alloc_new wa _)) (Nat.le_refl _) (by simp) (by omega)⟩
theorem put1_w {u : Tr} {A' : Option Addr} {n' c' : Nat} {wa : World} (hT : OkT wa A' n' c' u) (hz : u.size ≤ 430) (q : ByteArray) :
    Calls Tryz.prog 31 #[.slice A' n' c', .slice (some ⟨wa.heap.size, 0, none⟩) 1 1, .slice none 0 0] (wa.alloc (Obj.cells #[Value.string q] 9)) (Pt.OkP (wa.alloc (Obj.cells #[Value.string q] 9)) (putT u [q] .nil)) :=
  Pt.rput_any [q] u A' _ none n' c' 1 1 0 0 _ (hT.below ((Below.refl _ _).alloc (Nat.le_refl _) _)) ⟨rfl, Nat.le_refl _, Nat.zero_le _⟩ (path1 (heap_alloc_new wa _)) (Nat.le_refl _) (by omega)
theorem put2_w {u : Tr} {A' Av : Option Addr} {n' c' nv cv g : Nat} {q y v : ByteArray} {W : World} {e : TypeId} {r : Nat × Nat} (hT : OkT W A' n' c' u) (hz : u.size ≤ 430) (hg : W.heap[g]? = some (.cells #[.string q, .string y] e r)) (hv : OkT W Av nv cv (.cons v .nil .nil)) :
    Calls Tryz.prog 31 #[.slice A' n' c', .slice (some ⟨g, 0, none⟩) 2 2, .slice Av nv cv] W (Pt.OkP W (putT u [q, y] (.cons v .nil .nil))) :=
  Pt.rput_any [q, y] u A' _ Av n' c' 2 2 nv cv W hT hv (path2 hg) (Nat.le_refl _) (by omega)
theorem rvalueX_any (x : ByteArray) (w : World) : Calls Tryz.prog 32 #[.string x] w fun e w' => e = .returned (.slice (some ⟨w.heap.size, 0, none⟩) 1 1) ∧ w' = w.alloc (Obj.cells #[Value.string x, Value.slice none 0 0] 56) := by
  go_enter Tryz.func32, Tryz.ntmps32
  go_wp2_with fail
  go_ret
  exact ⟨rfl, rfl⟩
theorem val_ok {W : World} {b : Nat} {x : ByteArray} {e : TypeId} {r : Nat × Nat} (h : W.heap[b]? = some (.cells #[.string x, .slice none 0 0] e r)) : OkT W (some ⟨b, 0, none⟩) 1 1 (.cons x .nil .nil) := by
  have hc := fun i => cell_of_row _ _ i _ _ _ h
  exact ⟨⟨b, 0, rfl, (Array.getElem?_eq_some_iff.1 h).1, hc 0, ⟨none, 0, 0, hc 1, Nat.le_refl _, Nat.zero_le _, rfl⟩, 0, rfl, rfl⟩, Nat.le_refl _, by simp [maxLen]⟩
theorem three_low (w : World) (a b c : Obj) : (((w.alloc a).alloc b).alloc c).heap[w.heap.size]? = some a := by
  rw [heap_alloc_old ((w.alloc a).alloc b) c (Array.getElem?_eq_some_iff.1 (two_low w a b)).1]
  exact two_low w a b
theorem three_mid (w : World) (a b c : Obj) : (((w.alloc a).alloc b).alloc c).heap[w.heap.size + 1]? = some b := by
  rw [heap_alloc_old ((w.alloc a).alloc b) c (Array.getElem?_eq_some_iff.1 (two_high w a b)).1]
  exact two_high w a b
theorem three_high (w : World) (a b c : Obj) : (((w.alloc a).alloc b).alloc c).heap[w.heap.size + 1 + 1]? = some c := by
  have h := two_high (w.alloc a) b c
  rwa [show (w.alloc a).heap.size = w.heap.size + 1 by simp] at h
theorem belw3 (w : World) (a b c : Obj) : Below w.heap.size w (((w.alloc a).alloc b).alloc c).drew :=
  ((((Below.refl _ _).alloc (Nat.le_refl _) _).alloc (by simp) _).alloc (by simp; omega) _).drew
theorem kid_sz {q : ByteArray} : ∀ {t : Tr}, (kidT t q).size ≤ t.size
  | .nil => Nat.zero_le _
  | .cons s k r => by
    have := kid_sz (q := q) (t := r)
    rcases cases3 s q with c1 | ⟨c1, c2⟩ | ⟨c1, c2, _⟩
    · rw [kidT_lt c1]; simp only [Tr.size]; omega
    · rw [kidT_eq c1 c2]; simp only [Tr.size]; omega
    · rw [kidT_gt c1 c2]; exact Nat.zero_le _
def mkB (l : Bs) : ByteArray := ⟨l.toArray⟩
theorem mkB_bytes (l : Bs) : (mkB l).data.toList = l := by simp [mkB]
theorem mkB_size (l : Bs) : (mkB l).size = l.length := rfl
end Go.Proofs.YtapgaglkkgbgkaaGreatDoor.In
namespace Go.Proofs.YtapgaglkkgbgkaaGreatDoor.In
open Go.RowKit Go.Proofs.YtapgaglkkgbgkaaGreatDoor.Jd Go.Proofs.YtapgaglkkgbgkaaGreatDoor.Li Go.Proofs.YtapgaglkkgbgkaaGreatDoor.Cl Go.Proofs.YtapgaglkkgbgkaaGreatDoor.Pt Go.Proofs.YtapgaglkkgbgkaaGreatDoor.Cv
set_option maxRecDepth 100000

theorem putE_any (s : ByteArray) (t : Tr) (A : Option Addr) (n c : Nat) (w : World) (hsz : t.size ≤ 17179869184) (hnm : Tr.Nm t) (h : Holds w w.heap.size A n t) (hc : n ≤ c) (hm : c ≤ maxLen) (hG : Gl w) :
    Calls Tryz.prog 20 #[.slice A n c, .string s] w fun e w' => e = .returned (.tuple #[.string (mkB (putM t s.data.toList).1), .int .i64 (putM t s.data.toList).2]) ∧ Below w.heap.size w w' :=
  put_any t s A n c w h hc hm hsz hnm hG
theorem createE_any (t : Tr) (A : Option Addr) (n c : Nat) (w : World) (ht : OkT w A n c t) (hsz : t.size ≤ 17179869184) (hnm : Tr.Nm t) (hG : Gl w) :
    Calls Tryz.prog 22 #[.slice A n c] w fun e w' => e = .returned (.tuple #[.string (mkB (putM t []).1), .int .i64 (putM t []).2]) ∧ Below w.heap.size w w' :=
  create_any t A n c w ht.holds ht.cap.1 ht.cap.2 hsz hnm hG
theorem readI_fin (l : Bs) : ((readI l).1 = .nil ∨ ((readI l).1.fault = 0 ∧ Tr.Nm (readI l).1)) := by
  unfold readI
  by_cases h1 : 4000 < l.length
  · rw [if_pos h1]; exact .inl rfl
  · rw [if_neg h1]
    by_cases h2 : (partsI [⟨[], []⟩] 0 (split l)).2.2 ≠ 0
    · rw [if_pos h2]; exact .inl rfl
    · rw [if_neg h2]
      split
      · exact .inl rfl
      · rename_i h3
        exact .inr ⟨Decidable.not_not.1 h3, (treeI_ok (InvP.parts (split l) InvP.start (Classical.not_not.1 h2))).1⟩
theorem readI_few (l : Bs) : Tn 400 (readI l).1 := by
  rcases readI_fin l with h | ⟨h1, h2⟩
  · rw [h]; exact ⟨Nat.zero_le _, trivial⟩
  · exact ⟨(fault_asc h1).2, h2⟩
theorem conv_bytes (s : ByteArray) (w : World) : ∃ (Wb : World) (cap : Nat), (convert 9 26 (.string s)).run Tryz.prog w = .ok (.slice (some ⟨w.heap.size, 0, none⟩) s.size cap) Wb ∧ s.size ≤ cap ∧ Below w.heap.size w Wb ∧ w.heap.size < Wb.heap.size ∧
    Sees Wb Wb.heap.size (some ⟨w.heap.size, 0, none⟩) s.size s.data.toList ∧ ∀ j, j < s.size → Wb.frozen? ⟨w.heap.size, j, none⟩ = false := by
  have h := run_bytes_of_string (P := Tryz.prog) w 9 26 5 s Tryz.underlying9 Tryz.underlying26 Tryz.underlying5
  have hge := grownCap_ge w s.size 0 5
  generalize hc : grownCap w s.size 0 5 = cap at h hge
  have hbr : (bytesRow s cap).size = cap := by
    unfold bytesRow
    rw [Array.size_append, Array.size_map, Array.size_replicate]
    have : s.data.size = s.size := rfl
    omega
  rw [hbr] at h
  have hg : (w.drew.alloc (.cells (bytesRow s cap) 5 (cap, cap + 1))).heap[w.heap.size]? = some (.cells (bytesRow s cap) 5 (cap, cap + 1)) := heap_alloc_new w.drew _
  have hgl := (Array.getElem?_eq_some_iff.1 hg).1
  refine ⟨_, cap, h, hge, ((Below.refl w.heap.size w).drew).alloc (Nat.le_refl _) _, hgl, ⟨rfl, fun j u hj => ⟨_, rfl, hgl, ?_⟩⟩, fun j hj => ?_⟩
  · rw [Addr.add_lit, cell_of_row _ _ _ _ _ _ hg, Nat.zero_add]
    have hjs : j < s.data.size := (List.getElem?_eq_some_iff.1 hj).1
    have hu : s.data[j] = u := by
      have := (List.getElem?_eq_some_iff.1 hj).2
      simpa using this
    unfold bytesRow
    rw [Array.getElem?_append_left (by rw [Array.size_map]; exact hjs), Array.getElem?_map, Array.getElem?_eq_getElem hjs, hu]
    rfl
  · unfold World.frozen?
    have e : (w.drew.alloc (.cells (bytesRow s cap) 5 (cap, cap + 1))).heap[w.heap.size]? = some (.cells (bytesRow s cap) 5 (cap, cap + 1)) := hg
    rw [e]
    simp
    omega
theorem sees_set {w : World} {g n j : Nat} {l : List UInt8} (h : Sees w w.heap.size (some ⟨g, 0, none⟩) n l) (hj : j < n) (v : UInt8) : Sees (w.setCell ⟨g, j, none⟩ (.int .u8 (v.toNat : Int))) (w.setCell ⟨g, j, none⟩ (.int .u8 (v.toNat : Int))).heap.size (some ⟨g, 0, none⟩) n (l.set j v) := by
  have hs : (w.setCell ⟨g, j, none⟩ (.int .u8 (v.toNat : Int))).heap.size = w.heap.size := by simp
  refine ⟨by rw [List.length_set]; exact h.len, fun q u hq => ⟨_, rfl, ?_, ?_⟩⟩
  · obtain ⟨a, ha, hb, _⟩ := h.cell j (l[j]'(by rw [← h.len]; exact hj)) (List.getElem?_eq_getElem _)
    injection ha with ha
    rw [hs]
    subst ha
    exact hb
  · rw [Addr.add_lit, Nat.zero_add]
    by_cases hqj : j = q
    · subst hqj
      have e : u = v := by
        rw [List.getElem?_set_self (by rw [← h.len]; exact hj)] at hq
        injection hq with hq
        exact hq.symm
      obtain ⟨a, ha, hb, hc⟩ := h.cell j (l[j]'(by rw [← h.len]; exact hj)) (List.getElem?_eq_getElem _)
      injection ha with ha
      subst ha
      rw [Addr.add_lit, Nat.zero_add] at hc
      rw [e]
      exact World.cell?_setCell_same (a := ⟨g, j, none⟩) (v := .int .u8 (v.toNat : Int)) w hc
    · rw [List.getElem?_set_ne hqj] at hq
      obtain ⟨a, ha, hb, hc⟩ := h.cell q u hq
      injection ha with ha
      subst ha
      rw [Addr.add_lit, Nat.zero_add] at hc
      exact (World.cell?_setCell_other (a := ⟨g, j, none⟩) (b := ⟨g, q, none⟩) (v := .int .u8 (v.toNat : Int)) w (fun e => hqj (by injection e))).trans hc
def Byt (w : World) (g n : Nat) (wx : World) : Prop := ∃ l, Sees wx wx.heap.size (some ⟨g, 0, none⟩) n l ∧ Below w.heap.size w wx
end Go.Proofs.YtapgaglkkgbgkaaGreatDoor.In
namespace Go.Proofs.YtapgaglkkgbgkaaGreatDoor.Cv
open Go.RowKit Go.Proofs.YtapgaglkkgbgkaaGreatDoor.Jd
set_option maxRecDepth 100000

theorem ne_toNat {x : UInt8} {n : Nat} (hn : n < 256) (h : x ≠ UInt8.ofNat n) : x.toNat ≠ n := fun e => h (UInt8.toNat_inj.1 (by rw [e, UInt8.toNat_ofNat']; omega))
theorem drop_end (s : ByteArray) : s.data.toList.drop s.size = [] := List.drop_of_length_le (show s.data.toList.length ≤ s.size from Nat.le_refl _)

set_option maxHeartbeats 1000000 in
theorem cr_any (s : ByteArray) (w : World) (hz : s.size ≤ 140737488351232) : Calls Tryz.prog 73 #[.string s] w fun e w' => e = .returned (.bool (s.data.toList.contains 13)) ∧ w = w' := by
  obtain ⟨d, hd⟩ : ∃ d, d = s.data.toList.contains 13 := ⟨_, rfl⟩
  rw [← hd]
  have Hd := Lib.hid hd
  clear hd
  go_enter Tryz.func73, Tryz.ntmps73
  go_wp2_with fail
  go_loopw [3] (fun i wr => ∃ (k : Nat), k ≤ s.size ∧ i = .int .i64 k ∧ Hid (d = (s.data.toList.drop k).contains 13) ∧ Hid (wr = w)) (fun i _ => s.size - (intOf i).toNat)
  case atStart => exact ⟨0, Nat.zero_le _, rfl, Lib.hid (by rw [Hd.out]; rfl), Lib.hid rfl⟩
  case round =>
    obtain ⟨k, hk, rfl, HR, HW⟩ := hrel
    by_cases hlt : k < s.size
    · have hkn : (k : Int) < (s.size : Int) := by omega
      have hk0 : (0 : Int) ≤ (k : Int) := by omega
      have hrel := HR.out
      rw [drop_at hlt, List.contains_cons] at hrel
      by_cases h13 : s[k] = 13
      · have q1 : ((s[k].toNat : Int) == 13) = true := by rw [h13]; rfl
        have HR2 : Hid (d = true) := Lib.hid (by rw [hrel, h13]; rfl)
        have Hlt := Lib.hid hlt
        clear h13 hrel HR
        go_wp2_with fail
        go_ret
        exact ⟨by rw [HR2.out]; rfl, HW.out.symm⟩
      · have n13 : s[k].toNat ≠ 13 := ne_toNat (by decide) h13
        have q1 : ((s[k].toNat : Int) == 13) = false := by simp; omega
        have e13 : ((13 : UInt8) == s[k]) = false := beq_eq_false_iff_ne.2 (fun e => h13 e.symm)
        rw [e13, Bool.false_or] at hrel
        have HR2 := Lib.hid hrel
        have Hlt := Lib.hid hlt
        clear h13 hrel HR e13 n13
        go_wp2_with fail
        go_roundw
        case rel => exact ⟨k + 1, Hlt.out, by go_num, HR2, HW⟩
        case measure => have := Hlt.out; simp [intOf]; omega
    · obtain rfl : k = s.size := by omega
      have HR2 : Hid (d = false) := Lib.hid (by rw [HR.out, drop_end]; rfl)
      clear hlt HR
      go_wp2_with fail
      go_ret
      exact ⟨by rw [HR2.out]; rfl, HW.out.symm⟩

set_option maxHeartbeats 1000000 in
theorem bare_any (s : ByteArray) (w : World) (hz : s.size ≤ 140737488351232) : Calls Tryz.prog 61 #[.string s] w fun e w' => e = .returned (.bool (!(Lib.containsAny s.data.toList [10, 13]))) ∧ w = w' := by
  obtain ⟨d, hd⟩ : ∃ d, d = !(Lib.containsAny s.data.toList [10, 13]) := ⟨_, rfl⟩
  rw [← hd]
  rw [any_mem] at hd
  have Hd := Lib.hid hd
  clear hd
  go_enter Tryz.func61, Tryz.ntmps61
  go_wp2_with fail
  go_loopw [3] (fun i wr => ∃ (k : Nat), k ≤ s.size ∧ i = .int .i64 k ∧ Hid (d = !((s.data.toList.drop k).any fun x => ([10, 13] : List UInt8).contains x)) ∧ Hid (wr = w)) (fun i _ => s.size - (intOf i).toNat)
  case atStart => exact ⟨0, Nat.zero_le _, rfl, Lib.hid (by rw [Hd.out]; rfl), Lib.hid rfl⟩
  case round =>
    obtain ⟨k, hk, rfl, HR, HW⟩ := hrel
    by_cases hlt : k < s.size
    · have hkn : (k : Int) < (s.size : Int) := by omega
      have hk0 : (0 : Int) ≤ (k : Int) := by omega
      have hrel := HR.out
      rw [drop_at hlt, List.any_cons] at hrel
      by_cases h10 : s[k] = 10
      · have q1 : ((s[k].toNat : Int) == 10) = true := by rw [h10]; rfl
        have HR2 : Hid (d = false) := Lib.hid (by rw [hrel, h10]; rfl)
        have Hlt := Lib.hid hlt
        clear h10 hrel HR
        go_wp2_with fail
        go_ret
        exact ⟨by rw [HR2.out]; rfl, HW.out.symm⟩
      · have n10 : s[k].toNat ≠ 10 := ne_toNat (by decide) h10
        have q1 : ((s[k].toNat : Int) == 10) = false := by simp; omega
        by_cases h13 : s[k] = 13
        · have q2 : ((s[k].toNat : Int) == 13) = true := by rw [h13]; rfl
          have HR2 : Hid (d = false) := Lib.hid (by rw [hrel, h13]; rfl)
          have Hlt := Lib.hid hlt
          clear h10 h13 hrel HR n10
          go_wp2_with fail
          go_ret
          exact ⟨by rw [HR2.out]; rfl, HW.out.symm⟩
        · have n13 : s[k].toNat ≠ 13 := ne_toNat (by decide) h13
          have q2 : ((s[k].toNat : Int) == 13) = false := by simp; omega
          have e13 : ([10, 13] : List UInt8).contains s[k] = false := by simp [h10, h13]
          rw [e13, Bool.false_or] at hrel
          have HR2 := Lib.hid hrel
          have Hlt := Lib.hid hlt
          clear h10 h13 hrel HR e13 n13 n10
          go_wp2_with fail
          go_roundw
          case rel => exact ⟨k + 1, Hlt.out, by go_num, HR2, HW⟩
          case measure => have := Hlt.out; simp [intOf]; omega
    · obtain rfl : k = s.size := by omega
      have HR2 : Hid (d = true) := Lib.hid (by rw [HR.out, drop_end]; rfl)
      clear hlt HR
      go_wp2_with fail
      go_ret
      exact ⟨by rw [HR2.out]; rfl, HW.out.symm⟩

set_option maxHeartbeats 1000000 in
theorem plain_any (s : ByteArray) (w : World) (hz : s.size ≤ 140737488351232) : Calls Tryz.prog 59 #[.string s] w fun e w' => e = .returned (.bool (nB s)) ∧ w = w' := by
  have HC := Lib.hid (bare_any s w hz)
  by_cases h0 : s.size = 0
  · have he : (s.toList == ([] : List UInt8)) = true := by rw [empty_iff, decide_eq_true h0]
    have HV : Hid (nB s = false) := Lib.hid (by rw [nB, decide_eq_false (by omega)]; rfl)
    clear h0 hz
    go_enter Tryz.func59, Tryz.ntmps59
    go_wp2_with fail
    go_ret
    exact ⟨by rw [HV.out]; rfl, rfl⟩
  · have he : (s.toList == ([] : List UInt8)) = false := by rw [empty_iff, decide_eq_false h0]
    by_cases h8 : 80 < s.size
    · have h8' : (80 : Int) < (s.size : Int) := by omega
      have HV : Hid (nB s = false) := Lib.hid (by rw [nB, vB, decide_eq_false (p := s.size ≤ 80) (by omega)]; simp)
      clear h0 hz h8
      go_enter Tryz.func59, Tryz.ntmps59
      go_wp2_with fail
      go_ret
      exact ⟨by rw [HV.out]; rfl, rfl⟩
    · have h8' : ¬ (80 : Int) < (s.size : Int) := by omega
      obtain ⟨v, hv⟩ : ∃ v, v = !(Lib.containsAny s.data.toList [10, 13]) := ⟨_, rfl⟩
      rw [← hv] at HC
      have HV : Hid (nB s = v) := Lib.hid (by rw [nB, vB, decide_eq_true (p := 0 < s.size) (by omega), decide_eq_true (p := s.size ≤ 80) (by omega), hv]; rfl)
      clear h0 hz h8 hv
      go_enter Tryz.func59, Tryz.ntmps59
      go_wp2_with fail
      (with_reducible refine HC.out.mono ?_)
      rintro e w1 ⟨rfl, rfl⟩
      go_wp2_with fail
      go_ret
      exact ⟨by rw [HV.out]; rfl, rfl⟩

end Go.Proofs.YtapgaglkkgbgkaaGreatDoor.Cv
namespace Go.Proofs.YtapgaglkkgbgkaaGreatDoor.In
open Go.RowKit Go.Proofs.YtapgaglkkgbgkaaGreatDoor.Jd Go.Proofs.YtapgaglkkgbgkaaGreatDoor.Li Go.Proofs.YtapgaglkkgbgkaaGreatDoor.Cv
set_option maxRecDepth 100000

theorem tabE (w : World) (e : TypeId) (j : Nat) (hj : j < 4) : ∃ s : ByteArray, s.size ≤ 2 ∧ (w.alloc (.cells #[.string ⟨#[10]⟩, .string ⟨#[10]⟩, .string ⟨#[10]⟩, .string ⟨#[13, 10]⟩] e)).cell? ⟨w.heap.size, j, none⟩ = some (.string s) := by
  have hc := fun j => cell_of_row _ _ j _ _ _ (heap_alloc_new w (.cells #[.string ⟨#[10]⟩, .string ⟨#[10]⟩, .string ⟨#[10]⟩, .string ⟨#[13, 10]⟩] e))
  match j, hj with
  | 0, _ => exact ⟨_, by decide, hc 0⟩
  | 1, _ => exact ⟨_, by decide, hc 1⟩
  | 2, _ => exact ⟨_, by decide, hc 2⟩
  | 3, _ => exact ⟨_, by decide, hc 3⟩
def TxtC (w : World) (K : Nat) (v : Value) (wx : World) : Prop := ∃ s : ByteArray, v = .string s ∧ s.size ≤ K ∧ Below w.heap.size w wx
theorem b7 {wr : World} (a b : Obj) : Below wr.heap.size wr ((wr.alloc a).alloc b).drew := (((Below.refl _ _).alloc (Nat.le_refl _) _).alloc (by simp) _).drew
theorem trem26 (k : Nat) : ((k : Int).tmod 26) = ((k % 26 : Nat) : Int) := by rw [Int.tmod_eq_emod_of_nonneg (by omega)]; omega

set_option maxHeartbeats 8000000 in
theorem file_any (A : Option Addr) (n c : Nat) (l : List Int) (w : World) (h : SeesV w w.heap.size A n (l.map (Value.int .i64))) (hr : ∀ x ∈ l, -9223372036854775808 ≤ x ∧ x ≤ 9223372036854775807) (_ : n ≤ c) (_ : c ≤ maxLen) :
    Calls Tryz.prog 9 #[.slice A n c] w (UpTo 1500 w) := by
  have HH := Lib.hid h
  have Hr : Hid (∀ k, k < n → -9223372036854775808 ≤ l.getD k 0 ∧ l.getD k 0 ≤ 9223372036854775807) := Lib.hid (fun k hk => by
    have hkl : k < l.length := by have := h.len; rw [List.length_map] at this; omega
    rw [List.getD_eq_getElem?_getD, List.getElem?_eq_getElem hkl]
    exact hr _ (List.getElem_mem hkl))
  clear h hr
  go_enter Tryz.func9, Tryz.ntmps9
  go_wp2_with fail
  go_loopw [3, 4] (fun v i wr => ∃ (k : Nat) (s : ByteArray), k ≤ 40 ∧ i = .int .i64 k ∧ v = .string s ∧ s.size ≤ 30 * k ∧ Hid (Below w.heap.size w wr)) (fun _ i _ => 40 - (intOf i).toNat)
  case atStart => exact ⟨0, ⟨#[]⟩, Nat.zero_le _, rfl, rfl, by decide, Lib.hid (Below.refl _ _)⟩
  case round =>
    obtain ⟨k, s, hk, rfl, rfl, hsz, HW⟩ := hrel
    by_cases hlt : k < n ∧ k < 40
    · obtain ⟨hl1, hl2⟩ := hlt
      have q1 : (k : Int) < 40 := by omega
      have q2 : (k : Int) < (n : Int) := by omega
      have q3 : (0 : Int) ≤ (k : Int) := by omega
      obtain ⟨b, o, rfl, hbB, hcell⟩ := (HH.out.below HW.out).int hl1
      obtain ⟨x, hx⟩ : ∃ x, x = l.getD k 0 := ⟨_, rfl⟩
      have hxr := Hr.out k hl1
      rw [← hx] at hcell hxr
      obtain ⟨a7, b7', w7, v7⟩ := tdiv_lim 7 (by omega) hxr
      obtain ⟨a16, b16, w16, v16⟩ := tdiv_lim 16 (by omega) hxr
      obtain ⟨a3, b3, w3, v3⟩ := tdiv_lim 3 (by omega) hxr
      obtain ⟨j, hj, HJ'⟩ := within_nat (x.tdiv 7) 4 (by omega) (by omega) ⟨a7, b7'⟩
      have HJ : Hid (∀ w, Calls Tryz.prog 10 #[.int .i64 (x.tdiv 7), .int .i64 4] w fun e w' => e = .returned (.int .i64 j) ∧ w = w') := Lib.hid HJ'
      obtain ⟨j3, hj3, HJ3'⟩ := within_nat x 3 (by omega) (by omega) hxr
      have HJ3 : Hid (∀ w, Calls Tryz.prog 10 #[.int .i64 x, .int .i64 3] w fun e w' => e = .returned (.int .i64 j3) ∧ w = w') := Lib.hid HJ3'
      obtain ⟨j9, hj9, HJ9'⟩ := within_nat (x.tdiv 16) 9 (by omega) (by omega) ⟨a16, b16⟩
      have HJ9 : Hid (∀ w, Calls Tryz.prog 10 #[.int .i64 (x.tdiv 16), .int .i64 9] w fun e w' => e = .returned (.int .i64 j9) ∧ w = w') := Lib.hid HJ9'
      obtain ⟨j16, hj16, HJ16'⟩ := within_nat x 16 (by omega) (by omega) hxr
      obtain ⟨dd, hdd⟩ : ∃ dd : Int, dd = (j16 : Int) := ⟨_, rfl⟩
      have HJ16 : Hid (∀ w, Calls Tryz.prog 10 #[.int .i64 x, .int .i64 16] w fun e w' => e = .returned (.int .i64 dd) ∧ w = w') := Lib.hid (by rw [hdd]; exact HJ16')
      have hd16 : Hid (dd = 0 ∨ dd = 1 ∨ dd = 2 ∨ dd = 3 ∨ dd = 4 ∨ dd = 5 ∨ dd = 6 ∨ dd = 7 ∨ (¬ dd = 0 ∧ ¬ dd = 1 ∧ ¬ dd = 2 ∧ ¬ dd = 3 ∧ ¬ dd = 4 ∧ ¬ dd = 5 ∧ ¬ dd = 6 ∧ ¬ dd = 7)) := Lib.hid (by omega)
      obtain ⟨j10, hj10, HJ10'⟩ := within_nat (x.tdiv 3) 10 (by omega) (by omega) ⟨a3, b3⟩
      have HJ10 : Hid (∀ w, Calls Tryz.prog 10 #[.int .i64 (x.tdiv 3), .int .i64 10] w fun e w' => e = .returned (.int .i64 j10) ∧ w = w') := Lib.hid HJ10'
      obtain ⟨ee, hee, hec⟩ := tabE wr 9 j hj
      have hjI : (j : Int) < 4 := by omega
      have hj0 : (0 : Int) ≤ (j : Int) := by omega
      have HL := Lib.hid (And.intro hl1 hl2)
      have Hj10 := Lib.hid hj10
      have HW6 := Lib.hid (HW.out.alloc HW.out.size (Obj.cells #[Value.string ⟨#[10]⟩, Value.string ⟨#[10]⟩, Value.string ⟨#[10]⟩, Value.string ⟨#[13, 10]⟩] 9))
      clear HJ' HJ3' HJ9' HJ16' HJ10' hx hdd hj16 hj10 hj3 hbB hl1 hl2 a7 b7' a16 b16 a3 b3 hj hxr
      go_upto_region 7 with (first
        | (go_at_call 10; (with_reducible refine (HJ.out _).mono ?_); rintro e w' ⟨rfl, rfl⟩))
      obtain ⟨w2, hw2⟩ : ∃ W, W = wr.alloc (Obj.cells #[Value.string ⟨#[10]⟩, Value.string ⟨#[10]⟩, Value.string ⟨#[10]⟩, Value.string ⟨#[13, 10]⟩] 9) := ⟨_, rfl⟩
      rw [← hw2] at HW6 ⊢
      clear hw2 hec hcell HJ HW hj0 hjI w7 v7
      obtain ⟨bv, hbv⟩ : ∃ b, b = decide (k = 0 ∧ 0 < j3) := ⟨_, rfl⟩
      have Hbv := Lib.hid hbv
      clear hbv
      go_cut [34] from 8 to 120 (fun v wx => v = .bool bv ∧ wx = w2)
      case first =>
        by_cases h0 : k = 0
        · have k0b : ((k : Int) == 0) = true := by simp; omega
          by_cases h3 : 0 < j3
          · have h3' : (0 : Int) < (j3 : Int) := by omega
            obtain rfl : bv = true := by rw [Hbv.out]; exact decide_eq_true ⟨h0, h3⟩
            clear h0 h3 Hbv
            go_wp2_with fail
            (with_reducible refine (HJ3.out _).mono ?_)
            rintro e w' ⟨rfl, rfl⟩
            go_wp2_with fail
            go_meet
            exact ⟨by rw [decide_eq_true (by omega)], rfl⟩
          · have h3' : ¬ (0 : Int) < (j3 : Int) := by omega
            obtain rfl : bv = false := by rw [Hbv.out]; exact decide_eq_false (by omega)
            clear h0 h3 Hbv
            go_wp2_with fail
            (with_reducible refine (HJ3.out _).mono ?_)
            rintro e w' ⟨rfl, rfl⟩
            go_wp2_with fail
            go_meet
            exact ⟨by rw [decide_eq_false (by omega)], rfl⟩
        · have k0b : ((k : Int) == 0) = false := by simp; omega
          obtain rfl : bv = false := by rw [Hbv.out]; exact decide_eq_false (by omega)
          clear h0 Hbv
          go_wp2_with fail
          go_meet
          exact ⟨rfl, rfl⟩
      case rest =>
      obtain ⟨hv0, hwx⟩ := hcut
      subst hv0
      obtain rfl : w2 = wc := hwx.symm
      clear HJ3 Hbv
      go_upto_if 34 with (fail)
      go_cut [3] from 8 to 120 (fun v wx => TxtC w (30 * k + 6) v wx)
      case first =>
        cases bv with
        | true =>
          have hp0 := fun W => run_string_add_sum (P := Tryz.prog) (w := W) s ⟨#[91, 115, 48, 93]⟩ (by have : (ByteArray.mk #[91, 115, 48, 93]).size = 4 := rfl; omega)
          obtain ⟨u0, hu0⟩ : ∃ x, x = s ++ ⟨#[91, 115, 48, 93]⟩ := ⟨_, rfl⟩
          have hu0z : u0.size ≤ s.size + 4 := by rw [hu0, ByteArray.size_append]; have : (ByteArray.mk #[91, 115, 48, 93]).size = 4 := rfl; omega
          rw [← hu0] at hp0
          have hp1 := fun W => run_string_add_sum (P := Tryz.prog) (w := W) u0 ee (by omega)
          obtain ⟨u1, hu1⟩ : ∃ x, x = u0 ++ ee := ⟨_, rfl⟩
          have hu1z : u1.size ≤ s.size + 6 := by rw [hu1, ByteArray.size_append]; omega
          rw [← hu1] at hp1
          clear hu0 hu1
          have HZ : Hid (u1.size ≤ 30 * k + 6) := Lib.hid (by omega)
          clear hu0z hu1z hsz hee
          go_wp2_with fail
          go_meet
          exact ⟨_, rfl, HZ.out, HW6.out⟩
        | false =>
          have HZ : Hid (s.size ≤ 30 * k + 6) := Lib.hid (by omega)
          clear hsz hee
          go_wp2_with fail
          go_meet
          exact ⟨_, rfl, HZ.out, HW6.out⟩
      case rest =>
        obtain ⟨s1, rfl, hs1, hb1⟩ := hcut
        obtain ⟨wa, rfl⟩ : ∃ x : World, x = wc := ⟨_, rfl⟩
        have HB1 := Lib.hid hb1
        clear hb1 hsz
        go_upto_region 9 with (fail)
        go_cut [7] from 8 to 120 (fun v wx => TxtC w 2 v wx)
        case first =>
          have hwr := u8_small j9 (by omega)
          have hwr2 : IntKind.i64.wrap (97 + (j9 : Int)) = 97 + (j9 : Int) := IntWalk.i64_in _ (by omega)
          obtain ⟨r, hrr⟩ : ∃ r, r = k % 26 := ⟨_, rfl⟩
          have hr26 : r < 26 := by omega
          have ht26 : (k : Int).tmod 26 = (r : Int) := by rw [trem26, hrr]
          have hwr3 := u8_small r (by omega)
          have hwr4 : IntKind.i64.wrap (97 + (r : Int)) = 97 + (r : Int) := IntWalk.i64_in _ (by omega)
          have hwr5 : IntKind.i64.wrap (r : Int) = (r : Int) := IntWalk.i64_in _ (by omega)
          have z1 := conv_at j9 (by omega) (wa.alloc (Obj.cells #[Value.int .u8 (97 + (j9 : Int))] 5)).drew wa.heap.size (heap_alloc_new wa _)
          have z2 := conv_at j9 (by omega) ((wa.alloc (Obj.cells #[Value.int .u8 (97 + (j9 : Int))] 5)).alloc (Obj.cells #[Value.int .u8 (97 + (r : Int))] 5)).drew wa.heap.size (two_low wa _ _)
          have z3 := conv_at j9 (by omega) ((wa.alloc (Obj.cells #[Value.int .u8 (97 + (r : Int))] 5)).alloc (Obj.cells #[Value.int .u8 (97 + (j9 : Int))] 5)).drew (wa.heap.size + 1) (two_high wa _ _)
          have y1 := conv_at r (by omega) (wa.alloc (Obj.cells #[Value.int .u8 (97 + (r : Int))] 5)).drew wa.heap.size (heap_alloc_new wa _)
          have y2 := conv_at r (by omega) ((wa.alloc (Obj.cells #[Value.int .u8 (97 + (r : Int))] 5)).alloc (Obj.cells #[Value.int .u8 (97 + (j9 : Int))] 5)).drew wa.heap.size (two_low wa _ _)
          have y3 := conv_at r (by omega) ((wa.alloc (Obj.cells #[Value.int .u8 (97 + (j9 : Int))] 5)).alloc (Obj.cells #[Value.int .u8 (97 + (r : Int))] 5)).drew (wa.heap.size + 1) (two_high wa _ _)
          obtain ⟨v1, hv1⟩ : ∃ v, v = UInt8.ofNat (97 + j9) := ⟨_, rfl⟩
          obtain ⟨v2, hv2⟩ : ∃ v, v = UInt8.ofNat (97 + r) := ⟨_, rfl⟩
          rw [← hv1] at z1 z2 z3
          rw [← hv2] at y1 y2 y3
          have ha1 := fun W => run_string_add_sum (P := Tryz.prog) (w := W) ⟨#[v1]⟩ ⟨#[v2]⟩ (by have : (ByteArray.mk #[v1]).size = 1 := rfl; have : (ByteArray.mk #[v2]).size = 1 := rfl; omega)
          obtain ⟨kk, hkk⟩ : ∃ x, x = (ByteArray.mk #[v1]) ++ (ByteArray.mk #[v2]) := ⟨_, rfl⟩
          have hkz : kk.size ≤ 2 := by rw [hkk, ByteArray.size_append]; exact Nat.le_refl _
          rw [← hkk] at ha1
          have Hkz := Lib.hid hkz
          clear hv1 hv2 hkk hrr hkz hs1 hee
          go_region_law (first
            | (go_simp; (with_reducible refine (HJ9.out _).mono ?_); rintro e w' ⟨rfl, rfl⟩))
          all_goals
            go_wp2_with fail
            go_meet
            exact ⟨kk, rfl, Hkz.out, by first | exact (((HB1.out.alloc HB1.out.size _).alloc (by have := HB1.out.size; simp; omega) _).drew) | exact ((HB1.out.alloc HB1.out.size _).drew)⟩
        case rest =>
          obtain ⟨kk, rfl, hkz, hb2⟩ := hcut
          obtain ⟨wb, rfl⟩ : ∃ x : World, x = wc := ⟨_, rfl⟩
          have HB2 := Lib.hid hb2
          clear hb2 HB1 HJ9 hj9 HW6
          have HEnd : Hid (∀ (u : ByteArray) (W : World), u.size ≤ 30 * k + 6 + 20 → Below w.heap.size w W → ∃ (k' : Nat) (s : ByteArray), k' ≤ 40 ∧ Value.int .i64 (k + 1) = .int .i64 k' ∧ Value.string u = .string s ∧ s.size ≤ 30 * k' ∧ Hid (Below w.heap.size w W)) :=
            Lib.hid (fun u W h1 h2 => ⟨k + 1, u, HL.out.2, by rw [Int.natCast_succ], rfl, by omega, Lib.hid h2⟩)
          go_wp2_with fail
          (with_reducible refine (HJ16.out _).mono ?_)
          rintro e w9 ⟨rfl, rfl⟩
          rcases hd16.out with rfl | rfl | rfl | rfl | rfl | rfl | rfl | rfl | ⟨n0, n1, n2, n3, n4, n5, n6, n7⟩
          · have hp0 := fun W => run_string_add_sum (P := Tryz.prog) (w := W) s1 ⟨#[59, 32, 97, 32, 114, 101, 109, 97, 114, 107]⟩ (by have : (ByteArray.mk #[59, 32, 97, 32, 114, 101, 109, 97, 114, 107]).size = 10 := rfl; omega)
            obtain ⟨u0, hu0⟩ : ∃ x, x = s1 ++ ⟨#[59, 32, 97, 32, 114, 101, 109, 97, 114, 107]⟩ := ⟨_, rfl⟩
            have hu0z : u0.size ≤ s1.size + 10 := by rw [hu0, ByteArray.size_append]; have : (ByteArray.mk #[59, 32, 97, 32, 114, 101, 109, 97, 114, 107]).size = 10 := rfl; omega
            rw [← hu0] at hp0
            have hp1 := fun W => run_string_add_sum (P := Tryz.prog) (w := W) u0 ee (by omega)
            obtain ⟨u1, hu1⟩ : ∃ x, x = u0 ++ ee := ⟨_, rfl⟩
            have hu1z : u1.size ≤ s1.size + 12 := by rw [hu1, ByteArray.size_append]; omega
            rw [← hu1] at hp1
            clear hu0 hu1
            have HZ : Hid (u1.size ≤ 30 * k + 6 + 20) := Lib.hid (by omega)
            clear hu0z hu1z hs1 hee hkz
            have HE := Lib.hid (HEnd.out u1 wb HZ.out HB2.out)
            go_wp2_with fail
            go_roundw
            case rel => exact HE.out
            case measure => have := HL.out.2; simp [intOf]; omega
          · have hp0 := fun W => run_string_add_sum (P := Tryz.prog) (w := W) s1 ee (by omega)
            obtain ⟨u0, hu0⟩ : ∃ x, x = s1 ++ ee := ⟨_, rfl⟩
            have hu0z : u0.size ≤ s1.size + 2 := by rw [hu0, ByteArray.size_append]; omega
            rw [← hu0] at hp0
            clear hu0
            have HZ : Hid (u0.size ≤ 30 * k + 6 + 20) := Lib.hid (by omega)
            clear hu0z hs1 hee hkz
            have HE := Lib.hid (HEnd.out u0 wb HZ.out HB2.out)
            go_wp2_with fail
            go_roundw
            case rel => exact HE.out
            case measure => have := HL.out.2; simp [intOf]; omega
          · have hp0 := fun W => run_string_add_sum (P := Tryz.prog) (w := W) s1 ⟨#[32, 91, 115, 101, 99, 32]⟩ (by have : (ByteArray.mk #[32, 91, 115, 101, 99, 32]).size = 6 := rfl; omega)
            obtain ⟨u0, hu0⟩ : ∃ x, x = s1 ++ ⟨#[32, 91, 115, 101, 99, 32]⟩ := ⟨_, rfl⟩
            have hu0z : u0.size ≤ s1.size + 6 := by rw [hu0, ByteArray.size_append]; have : (ByteArray.mk #[32, 91, 115, 101, 99, 32]).size = 6 := rfl; omega
            rw [← hu0] at hp0
            have hp1 := fun W => run_string_add_sum (P := Tryz.prog) (w := W) u0 kk (by omega)
            obtain ⟨u1, hu1⟩ : ∃ x, x = u0 ++ kk := ⟨_, rfl⟩
            have hu1z : u1.size ≤ s1.size + 8 := by rw [hu1, ByteArray.size_append]; omega
            rw [← hu1] at hp1
            have hp2 := fun W => run_string_add_sum (P := Tryz.prog) (w := W) u1 ⟨#[93, 32]⟩ (by have : (ByteArray.mk #[93, 32]).size = 2 := rfl; omega)
            obtain ⟨u2, hu2⟩ : ∃ x, x = u1 ++ ⟨#[93, 32]⟩ := ⟨_, rfl⟩
            have hu2z : u2.size ≤ s1.size + 10 := by rw [hu2, ByteArray.size_append]; have : (ByteArray.mk #[93, 32]).size = 2 := rfl; omega
            rw [← hu2] at hp2
            have hp3 := fun W => run_string_add_sum (P := Tryz.prog) (w := W) u2 ee (by omega)
            obtain ⟨u3, hu3⟩ : ∃ x, x = u2 ++ ee := ⟨_, rfl⟩
            have hu3z : u3.size ≤ s1.size + 12 := by rw [hu3, ByteArray.size_append]; omega
            rw [← hu3] at hp3
            clear hu0 hu1 hu2 hu3
            have HZ : Hid (u3.size ≤ 30 * k + 6 + 20) := Lib.hid (by omega)
            clear hu0z hu1z hu2z hu3z hs1 hee hkz
            have HE := Lib.hid (HEnd.out u3 wb HZ.out HB2.out)
            go_wp2_with fail
            go_roundw
            case rel => exact HE.out
            case measure => have := HL.out.2; simp [intOf]; omega
          · have hp0 := fun W => run_string_add_sum (P := Tryz.prog) (w := W) s1 ⟨#[32, 91, 115, 101, 99, 32]⟩ (by have : (ByteArray.mk #[32, 91, 115, 101, 99, 32]).size = 6 := rfl; omega)
            obtain ⟨u0, hu0⟩ : ∃ x, x = s1 ++ ⟨#[32, 91, 115, 101, 99, 32]⟩ := ⟨_, rfl⟩
            have hu0z : u0.size ≤ s1.size + 6 := by rw [hu0, ByteArray.size_append]; have : (ByteArray.mk #[32, 91, 115, 101, 99, 32]).size = 6 := rfl; omega
            rw [← hu0] at hp0
            have hp1 := fun W => run_string_add_sum (P := Tryz.prog) (w := W) u0 kk (by omega)
            obtain ⟨u1, hu1⟩ : ∃ x, x = u0 ++ kk := ⟨_, rfl⟩
            have hu1z : u1.size ≤ s1.size + 8 := by rw [hu1, ByteArray.size_append]; omega
            rw [← hu1] at hp1
            have hp2 := fun W => run_string_add_sum (P := Tryz.prog) (w := W) u1 ⟨#[93, 32]⟩ (by have : (ByteArray.mk #[93, 32]).size = 2 := rfl; omega)
            obtain ⟨u2, hu2⟩ : ∃ x, x = u1 ++ ⟨#[93, 32]⟩ := ⟨_, rfl⟩
            have hu2z : u2.size ≤ s1.size + 10 := by rw [hu2, ByteArray.size_append]; have : (ByteArray.mk #[93, 32]).size = 2 := rfl; omega
            rw [← hu2] at hp2
            have hp3 := fun W => run_string_add_sum (P := Tryz.prog) (w := W) u2 ee (by omega)
            obtain ⟨u3, hu3⟩ : ∃ x, x = u2 ++ ee := ⟨_, rfl⟩
            have hu3z : u3.size ≤ s1.size + 12 := by rw [hu3, ByteArray.size_append]; omega
            rw [← hu3] at hp3
            clear hu0 hu1 hu2 hu3
            have HZ : Hid (u3.size ≤ 30 * k + 6 + 20) := Lib.hid (by omega)
            clear hu0z hu1z hu2z hu3z hs1 hee hkz
            have HE := Lib.hid (HEnd.out u3 wb HZ.out HB2.out)
            go_wp2_with fail
            go_roundw
            case rel => exact HE.out
            case measure => have := HL.out.2; simp [intOf]; omega
          · have hp0 := fun W => run_string_add_sum (P := Tryz.prog) (w := W) s1 ⟨#[35, 32, 120, 61, 121]⟩ (by have : (ByteArray.mk #[35, 32, 120, 61, 121]).size = 5 := rfl; omega)
            obtain ⟨u0, hu0⟩ : ∃ x, x = s1 ++ ⟨#[35, 32, 120, 61, 121]⟩ := ⟨_, rfl⟩
            have hu0z : u0.size ≤ s1.size + 5 := by rw [hu0, ByteArray.size_append]; have : (ByteArray.mk #[35, 32, 120, 61, 121]).size = 5 := rfl; omega
            rw [← hu0] at hp0
            have hp1 := fun W => run_string_add_sum (P := Tryz.prog) (w := W) u0 ee (by omega)
            obtain ⟨u1, hu1⟩ : ∃ x, x = u0 ++ ee := ⟨_, rfl⟩
            have hu1z : u1.size ≤ s1.size + 7 := by rw [hu1, ByteArray.size_append]; omega
            rw [← hu1] at hp1
            clear hu0 hu1
            have HZ : Hid (u1.size ≤ 30 * k + 6 + 20) := Lib.hid (by omega)
            clear hu0z hu1z hs1 hee hkz
            have HE := Lib.hid (HEnd.out u1 wb HZ.out HB2.out)
            go_wp2_with fail
            go_roundw
            case rel => exact HE.out
            case measure => have := HL.out.2; simp [intOf]; omega
          · have hp0 := fun W => run_string_add_sum (P := Tryz.prog) (w := W) s1 ⟨#[32, 32]⟩ (by have : (ByteArray.mk #[32, 32]).size = 2 := rfl; omega)
            obtain ⟨u0, hu0⟩ : ∃ x, x = s1 ++ ⟨#[32, 32]⟩ := ⟨_, rfl⟩
            have hu0z : u0.size ≤ s1.size + 2 := by rw [hu0, ByteArray.size_append]; have : (ByteArray.mk #[32, 32]).size = 2 := rfl; omega
            rw [← hu0] at hp0
            have hp1 := fun W => run_string_add_sum (P := Tryz.prog) (w := W) u0 kk (by omega)
            obtain ⟨u1, hu1⟩ : ∃ x, x = u0 ++ kk := ⟨_, rfl⟩
            have hu1z : u1.size ≤ s1.size + 4 := by rw [hu1, ByteArray.size_append]; omega
            rw [← hu1] at hp1
            have hp2 := fun W => run_string_add_sum (P := Tryz.prog) (w := W) u1 ⟨#[9, 61, 32, 32]⟩ (by have : (ByteArray.mk #[9, 61, 32, 32]).size = 4 := rfl; omega)
            obtain ⟨u2, hu2⟩ : ∃ x, x = u1 ++ ⟨#[9, 61, 32, 32]⟩ := ⟨_, rfl⟩
            have hu2z : u2.size ≤ s1.size + 8 := by rw [hu2, ByteArray.size_append]; have : (ByteArray.mk #[9, 61, 32, 32]).size = 4 := rfl; omega
            rw [← hu2] at hp2
            have hp3 := fun W => run_string_add_sum (P := Tryz.prog) (w := W) u2 ee (by omega)
            obtain ⟨u3, hu3⟩ : ∃ x, x = u2 ++ ee := ⟨_, rfl⟩
            have hu3z : u3.size ≤ s1.size + 10 := by rw [hu3, ByteArray.size_append]; omega
            rw [← hu3] at hp3
            clear hu0 hu1 hu2 hu3
            have HZ : Hid (u3.size ≤ 30 * k + 6 + 20) := Lib.hid (by omega)
            clear hu0z hu1z hu2z hu3z hs1 hee hkz
            have HE := Lib.hid (HEnd.out u3 wb HZ.out HB2.out)
            go_wp2_with fail
            go_roundw
            case rel => exact HE.out
            case measure => have := HL.out.2; simp [intOf]; omega
          · have hp0 := fun W => run_string_add_sum (P := Tryz.prog) (w := W) s1 kk (by omega)
            obtain ⟨u0, hu0⟩ : ∃ x, x = s1 ++ kk := ⟨_, rfl⟩
            have hu0z : u0.size ≤ s1.size + 2 := by rw [hu0, ByteArray.size_append]; omega
            rw [← hu0] at hp0
            have hp1 := fun W => run_string_add_sum (P := Tryz.prog) (w := W) u0 ⟨#[61]⟩ (by have : (ByteArray.mk #[61]).size = 1 := rfl; omega)
            obtain ⟨u1, hu1⟩ : ∃ x, x = u0 ++ ⟨#[61]⟩ := ⟨_, rfl⟩
            have hu1z : u1.size ≤ s1.size + 3 := by rw [hu1, ByteArray.size_append]; have : (ByteArray.mk #[61]).size = 1 := rfl; omega
            rw [← hu1] at hp1
            have hp2 := fun W => run_string_add_sum (P := Tryz.prog) (w := W) u1 ee (by omega)
            obtain ⟨u2, hu2⟩ : ∃ x, x = u1 ++ ee := ⟨_, rfl⟩
            have hu2z : u2.size ≤ s1.size + 5 := by rw [hu2, ByteArray.size_append]; omega
            rw [← hu2] at hp2
            clear hu0 hu1 hu2
            have HZ : Hid (u2.size ≤ 30 * k + 6 + 20) := Lib.hid (by omega)
            clear hu0z hu1z hu2z hs1 hee hkz
            have HE := Lib.hid (HEnd.out u2 wb HZ.out HB2.out)
            go_wp2_with fail
            go_roundw
            case rel => exact HE.out
            case measure => have := HL.out.2; simp [intOf]; omega
          · have hp0 := fun W => run_string_add_sum (P := Tryz.prog) (w := W) s1 kk (by omega)
            obtain ⟨u0, hu0⟩ : ∃ x, x = s1 ++ kk := ⟨_, rfl⟩
            have hu0z : u0.size ≤ s1.size + 2 := by rw [hu0, ByteArray.size_append]; omega
            rw [← hu0] at hp0
            have hp1 := fun W => run_string_add_sum (P := Tryz.prog) (w := W) u0 ⟨#[32, 61, 32, 97, 32, 61, 32, 98, 32, 59, 32, 99, 32]⟩ (by have : (ByteArray.mk #[32, 61, 32, 97, 32, 61, 32, 98, 32, 59, 32, 99, 32]).size = 13 := rfl; omega)
            obtain ⟨u1, hu1⟩ : ∃ x, x = u0 ++ ⟨#[32, 61, 32, 97, 32, 61, 32, 98, 32, 59, 32, 99, 32]⟩ := ⟨_, rfl⟩
            have hu1z : u1.size ≤ s1.size + 15 := by rw [hu1, ByteArray.size_append]; have : (ByteArray.mk #[32, 61, 32, 97, 32, 61, 32, 98, 32, 59, 32, 99, 32]).size = 13 := rfl; omega
            rw [← hu1] at hp1
            have hp2 := fun W => run_string_add_sum (P := Tryz.prog) (w := W) u1 ee (by omega)
            obtain ⟨u2, hu2⟩ : ∃ x, x = u1 ++ ee := ⟨_, rfl⟩
            have hu2z : u2.size ≤ s1.size + 17 := by rw [hu2, ByteArray.size_append]; omega
            rw [← hu2] at hp2
            clear hu0 hu1 hu2
            have HZ : Hid (u2.size ≤ 30 * k + 6 + 20) := Lib.hid (by omega)
            clear hu0z hu1z hu2z hs1 hee hkz
            have HE := Lib.hid (HEnd.out u2 wb HZ.out HB2.out)
            go_wp2_with fail
            go_roundw
            case rel => exact HE.out
            case measure => have := HL.out.2; simp [intOf]; omega
          · have e0 : (dd == 0) = false := beq_eq_false_iff_ne.2 n0
            have e1 : (dd == 1) = false := beq_eq_false_iff_ne.2 n1
            have e2 : (dd == 2) = false := beq_eq_false_iff_ne.2 n2
            have e3 : (dd == 3) = false := beq_eq_false_iff_ne.2 n3
            have e4 : (dd == 4) = false := beq_eq_false_iff_ne.2 n4
            have e5 : (dd == 5) = false := beq_eq_false_iff_ne.2 n5
            have e6 : (dd == 6) = false := beq_eq_false_iff_ne.2 n6
            have e7 : (dd == 7) = false := beq_eq_false_iff_ne.2 n7
            clear n0 n1 n2 n3 n4 n5 n6 n7
            have hwr := u8_small48 j10 (by have := Hj10.out; omega)
            have hwr2 : IntKind.i64.wrap (48 + (j10 : Int)) = 48 + (j10 : Int) := IntWalk.i64_in _ (by have := Hj10.out; omega)
            have z1 := conv_at48 j10 (by have := Hj10.out; omega) (wb.alloc (Obj.cells #[Value.int .u8 (48 + (j10 : Int))] 5)) wb.heap.size (heap_alloc_new wb _)
            obtain ⟨dv, hdv⟩ : ∃ v, v = UInt8.ofNat (48 + j10) := ⟨_, rfl⟩
            rw [← hdv] at z1
            have hp0 := fun W => run_string_add_sum (P := Tryz.prog) (w := W) s1 kk (by omega)
            obtain ⟨u0, hu0⟩ : ∃ x, x = s1 ++ kk := ⟨_, rfl⟩
            have hu0z : u0.size ≤ s1.size + 2 := by rw [hu0, ByteArray.size_append]; omega
            rw [← hu0] at hp0
            have hp1 := fun W => run_string_add_sum (P := Tryz.prog) (w := W) u0 ⟨#[61, 118]⟩ (by have : (ByteArray.mk #[61, 118]).size = 2 := rfl; omega)
            obtain ⟨u1, hu1⟩ : ∃ x, x = u0 ++ ⟨#[61, 118]⟩ := ⟨_, rfl⟩
            have hu1z : u1.size ≤ s1.size + 4 := by rw [hu1, ByteArray.size_append]; have : (ByteArray.mk #[61, 118]).size = 2 := rfl; omega
            rw [← hu1] at hp1
            have hp2 := fun W => run_string_add_sum (P := Tryz.prog) (w := W) u1 ⟨#[dv]⟩ (by have : (ByteArray.mk #[dv]).size = 1 := rfl; omega)
            obtain ⟨u2, hu2⟩ : ∃ x, x = u1 ++ ⟨#[dv]⟩ := ⟨_, rfl⟩
            have hu2z : u2.size ≤ s1.size + 5 := by rw [hu2, ByteArray.size_append]; have : (ByteArray.mk #[dv]).size = 1 := rfl; omega
            rw [← hu2] at hp2
            have hp3 := fun W => run_string_add_sum (P := Tryz.prog) (w := W) u2 ee (by omega)
            obtain ⟨u3, hu3⟩ : ∃ x, x = u2 ++ ee := ⟨_, rfl⟩
            have hu3z : u3.size ≤ s1.size + 7 := by rw [hu3, ByteArray.size_append]; omega
            rw [← hu3] at hp3
            clear hu0 hu1 hu2 hu3
            have HZ : Hid (u3.size ≤ 30 * k + 6 + 20) := Lib.hid (by omega)
            clear hu0z hu1z hu2z hu3z hs1 hee hkz hdv
            have HE := Lib.hid (HEnd.out u3 (wb.alloc (Obj.cells #[Value.int .u8 (48 + (j10 : Int))] 5)) HZ.out (HB2.out.alloc HB2.out.size _))
            go_wp2_with fail
            (with_reducible refine (HJ10.out _).mono ?_)
            rintro e w10 ⟨rfl, rfl⟩
            go_wp2_with fail
            go_roundw
            case rel => exact HE.out
            case measure => have := HL.out.2; simp [intOf]; omega
    · have hex : (k : Int) = 40 ∧ (40 : Int) < (n : Int) ∨ ¬ (k : Int) < (n : Int) ∨ ((k : Int) = 40 ∧ (n : Int) = 40) := by omega
      have hsm : s.size ≤ 1200 := by omega
      have hex2 : (¬ (k : Int) < (n : Int)) ∨ ((k : Int) < (n : Int) ∧ ¬ (k : Int) < 40) := by omega
      clear hlt hex hsz
      by_cases hn0 : 0 < n
      · obtain ⟨b, o, rfl, hbB, hcell⟩ := (HH.out.below HW.out).int hn0
        have hxr := Hr.out 0 hn0
        obtain ⟨x, hx⟩ : ∃ x, x = l.getD 0 0 := ⟨_, rfl⟩
        rw [← hx] at hcell hxr
        have hcell0 := hcell
        rw [Nat.add_zero] at hcell0
        obtain ⟨j, hj, HJ'⟩ := within_nat x 5 (by omega) (by omega) hxr
        have HJ : Hid (∀ w, Calls Tryz.prog 10 #[.int .i64 x, .int .i64 5] w fun e w' => e = .returned (.int .i64 j) ∧ w = w') := Lib.hid HJ'
        have hn0' : (0 : Int) < (n : Int) := by omega
        have hn00 : ¬ n = 0 := by omega
        have HSm : Hid (s.size ≤ 1500) := Lib.hid (by omega)
        clear HJ' hx hxr hn0 hbB
        by_cases hj0 : j = 0
        · have b1 : ((j : Int) == 0) = true := by simp; omega
          clear hj0
          by_cases hs0 : s.size = 0
          · have hs0' : ¬ (0 : Int) < (s.size : Int) := by omega
            clear hs0 hsm
            rcases hex2 with hin | ⟨hin, hin2⟩
            all_goals
              go_wp2_with fail
              (with_reducible refine (HJ.out _).mono ?_)
              rintro e w4 ⟨rfl, rfl⟩
              go_wp2_with fail
              go_ret
              exact ⟨s, HSm.out, rfl, HW.out⟩
          · have hs0' : (0 : Int) < (s.size : Int) := by omega
            obtain ⟨p, hp⟩ : ∃ p, p = s.size - 1 := ⟨_, rfl⟩
            have hpI : (s.size : Int) - 1 = (p : Int) := by omega
            have hpl : p < s.size := by omega
            have hp0 : (0 : Int) ≤ (p : Int) := by omega
            have hpn : (p : Int) < (s.size : Int) := by omega
            have hpn2 : (p : Int) ≤ (s.size : Int) := by omega
            have hw1 : IntKind.i64.wrap ((s.size : Int) - 1) = (p : Int) := by rw [hpI]; exact IntWalk.i64_in _ (by omega)
            have hw2 : wrap64 ((s.size : Int) - 1) = (p : Int) := by rw [hpI]; unfold wrap64; omega
            have hw3 : IntKind.i64.wrap (p : Int) = (p : Int) := IntWalk.i64_in _ (by omega)
            have HX : Hid ((s.extract 0 p).size ≤ 1500) := Lib.hid (by rw [ByteArray.size_extract]; omega)
            clear hs0 hp hsm
            by_cases h10 : s[p] = 10
            · have q7 : ((s[p].toNat : Int) == 10) = true := by rw [h10]; rfl
              have e7 : (s[p].toNat : Int) = 10 := by rw [h10]; rfl
              clear h10
              rcases hex2 with hin | ⟨hin, hin2⟩
              all_goals
                go_wp2_with fail
                (with_reducible refine (HJ.out _).mono ?_)
                rintro e w4 ⟨rfl, rfl⟩
                go_wp2_with fail
                go_ret
                exact ⟨_, HX.out, rfl, HW.out⟩
            · have n10 := ne_toNat (n := 10) (by decide) h10
              have q7 : ((s[p].toNat : Int) == 10) = false := by simp; omega
              have e7 : ¬ (s[p].toNat : Int) = 10 := by omega
              clear h10 n10
              rcases hex2 with hin | ⟨hin, hin2⟩
              all_goals
                go_wp2_with fail
                (with_reducible refine (HJ.out _).mono ?_)
                rintro e w4 ⟨rfl, rfl⟩
                go_wp2_with fail
                go_ret
                exact ⟨s, HSm.out, rfl, HW.out⟩
        · have b1 : ((j : Int) == 0) = false := by simp; omega
          clear hj0 hsm
          rcases hex2 with hin | ⟨hin, hin2⟩
          all_goals
            go_wp2_with fail
            (with_reducible refine (HJ.out _).mono ?_)
            rintro e w4 ⟨rfl, rfl⟩
            go_wp2_with fail
            go_ret
            exact ⟨s, HSm.out, rfl, HW.out⟩
      · have hn0' : ¬ (0 : Int) < (n : Int) := by omega
        have HSm : Hid (s.size ≤ 1500) := Lib.hid (by omega)
        have hin : ¬ (k : Int) < (n : Int) := by omega
        clear hsm hex2
        go_wp2_with fail
        go_ret
        exact ⟨s, HSm.out, rfl, HW.out⟩
end Go.Proofs.YtapgaglkkgbgkaaGreatDoor.In
