/- tree.Bytes: the document's bytes of a tree. Conditions: edges, names' bytes below 2^34. -/
import Derived.Test.YtebiinjcegdmpaaText
import Derived.Test.YtebiinjcegdmpaaPutText
namespace Go.Proofs.Ytebiinjcegdmpaa
open Go.RowKit Go.Shelf
set_option maxRecDepth 100000
attribute [local go_sem] Oper.semAt_some

/-- How many edges as two bytes; Bytes. -/
def cnt (n : Nat) : List UInt8 := leB 1 (n % 256) ++ leB 1 (n / 256 % 256)
theorem cnt_length (n : Nat) : (cnt n).length = 2 := by simp [cnt, leB_length]
def Tr.kids : Tr → List UInt8
  | .nil => []
  | .cons s k r => textB s ++ (cnt k.len ++ k.kids) ++ r.kids
def Tr.bin (t : Tr) : List UInt8 := cnt t.len ++ t.kids
/-- What each edge puts behind what is there. -/
def binOne (x : Nat × ByteArray × Nat) : List UInt8 := textB x.2.1 ++ cnt x.2.2
theorem bin_flat (t : Tr) : ∀ d, (t.flat d).flatMap binOne = t.kids := by
  induction t with
  | nil => intro d; rfl
  | cons s k r ihk ihr =>
    intro d
    simp only [Tr.flat, List.flatMap_cons, List.flatMap_append, ihk, ihr, Tr.kids, binOne, List.append_assoc]
theorem textB_le (s : ByteArray) : (textB s).length ≤ 2 + s.size := by
  unfold textB cutText
  rw [List.length_append, leB_length, List.length_take, Array.length_toList]
  have : s.data.size = s.size := rfl
  omega
theorem kids_le (t : Tr) : t.kids.length ≤ t.bulk + 4 * t.size := by
  induction t with
  | nil => exact Nat.le_refl _
  | cons s k r ihk ihr =>
    have := textB_le s
    simp only [Tr.kids, Tr.bulk, Tr.size, List.length_append, cnt_length]
    omega

set_option maxHeartbeats 1000000 in
theorem count_any (A : Option Addr) (n c : Nat) (w : World) : Calls Try.prog 27 #[.slice A n c] w fun e w' =>
    ∃ A' N c', e = .returned (.slice A' N c') ∧ Own w' w.heap.size A' N c' (cnt n) ∧ Below w.heap.size w w' := by
  go_enter Try.func27, Try.ntmps27
  go_wp2_with fail
  refine (putByte_any none 0 0 [] (n : Int) w (Sees.none_ _ _ _) (by omega)).mono ?_
  rintro e w1 ⟨A1, N1, c1, rfl, ho1, hb1⟩
  have hN1 : N1 ≤ 35184372088832 := by rw [ho1.len]; simp [leB_length]
  go_wp2_with fail
  refine (putByte_any A1 N1 c1 _ _ w1 ho1.sees hN1).mono ?_
  rintro e w2 ⟨A2, N2, c2, rfl, ho2, hb2⟩
  have Ho2 := Lib.hid (ho2.less hb1.size)
  go_wp2_with fail
  go_ret
  refine ⟨A2, N2, c2, rfl, ?_, hb1.trans (hb2.mono hb1.size)⟩
  have h := Ho2.out
  have e1 : ((n : Int) % 256).toNat = n % 256 := by omega
  have e2 : ((n : Int) / 256 % 256).toNat = n / 256 % 256 := by omega
  rw [e1, e2, List.nil_append] at h
  exact h

/-- Within a round: what has been kept since it began; the box; the row that is being grown. -/
structure Mid1 (B g1 : Nat) (W2 w : World) (v : Value) (A : Option Addr) (n c : Nat) (out : List UInt8) : Prop where
  keeps : Keeps (pB kinds) B W2 w
  box1 : w.heap[g1]? = some (.cells #[v] 24 (0, 0))
  own : Own w B A n c out
  le : B ≤ w.heap.size ∧ B ≤ g1
section
variable {B g1 n c n' c' : Nat} {W2 w w' : World} {v : Value} {A A' : Option Addr} {out out' : List UInt8}
theorem Mid1.new (h : Mid1 B g1 W2 w v A n c out) (hb : Below w.heap.size w w') : Mid1 B g1 W2 w' v A n c out :=
  ⟨h.keeps.trans (Keeps.new hb h.le.1), (hb.block _ (Array.getElem?_eq_some_iff.1 h.box1).1).trans h.box1, h.own.keep hb, ⟨Nat.le_trans h.le.1 hb.size, h.le.2⟩⟩
theorem Mid1.drew (h : Mid1 B g1 W2 w v A n c out) : Mid1 B g1 W2 w.drew v A n c out := ⟨h.keeps.drew, h.box1, h.own.drew, h.le⟩
theorem Mid1.grow (h : Mid1 B g1 W2 w v A n c out) (hg : w.grownBy w' (Value.slice A n c).ownBlock) (ho : Own w' B A' n' c' out') : Mid1 B g1 W2 w' v A' n' c' out' :=
  ⟨h.keeps.trans (Keeps.grown hg h.le.1 (fun g hh => ⟨(h.own.tag g hh).1, fun o' ho' => by
    obtain ⟨cs, fr, hx⟩ := (h.own.tag g hh).2
    rw [hx] at ho'
    cases ho'
    rfl⟩)), (hg.block _ (Array.getElem?_eq_some_iff.1 h.box1).1 (h.own.ne h.box1 (by decide))).trans h.box1, ho, ⟨Nat.le_trans h.le.1 hg.size, h.le.2⟩⟩
theorem Mid1.store1 (h : Mid1 B g1 W2 w v A n c out) (u : Value) : Mid1 B g1 W2 (w.setCell ⟨g1, 0, none⟩ u) u A n c out :=
  ⟨h.keeps.trans (Keeps.setCell (a := ⟨g1, 0, none⟩) w u h.box1 rfl h.le.2), box_set h.box1, h.own.set (h.own.ne h.box1 (by decide)) _, ⟨by simp [World.setCell]; exact h.le.1, h.le.2⟩⟩
theorem Mid1.cell1 (h : Mid1 B g1 W2 w v A n c out) : w.cell? ⟨g1, 0, none⟩ = some v ∧ w.frozen? ⟨g1, 0, none⟩ = false ∧ g1 < w.heap.size :=
  ⟨by rw [cell_of_row w _ 0 _ _ _ h.box1]; rfl, by simp [World.frozen?, h.box1], (Array.getElem?_eq_some_iff.1 h.box1).1⟩
theorem Mid1.edge {g : Nat} {s : ByteArray} {X : Option Addr} {xn xc : Nat} (h : Mid1 B g1 W2 w v A n c out) (hg : W2.heap[g]? = some (.cells #[.string s, .slice X xn xc] 44 (0, 0))) : w.cell? ⟨g, 0, none⟩ = some (.string s) ∧ w.cell? ⟨g, 1, none⟩ = some (.slice X xn xc) ∧ g < w.heap.size :=
  ⟨by rw [cell_of_row w _ 0 _ _ _ (h.keeps.same _ _ hg rfl)]; rfl, by rw [cell_of_row w _ 1 _ _ _ (h.keeps.same _ _ hg rfl)]; rfl, (Array.getElem?_eq_some_iff.1 (h.keeps.same _ _ hg rfl)).1⟩
end

/-- What Bytes' own cells hold, these edges having come. -/
def BinI (B g1 : Nat) (w0 : World) (n : Nat) (pre : List Handed) (W : World) : Prop :=
  (∃ A N c, W.heap[g1]? = some (.cells #[.slice A N c] 24 (0, 0)) ∧ Own W B A N c (cnt n ++ (pre.map Handed.word).flatMap binOne)) ∧ Below B w0 W
theorem BinI.bears (B g1 n : Nat) (w0 : World) : Bears kinds B (BinI B g1 w0 n) := by
  intro pre W W' ⟨⟨A, N, c, hb, ho⟩, hB⟩ hk
  exact ⟨⟨A, N, c, hk.same _ _ hb rfl, ho.held hk⟩, hB.trans hk.below⟩

set_option maxHeartbeats 2000000 in
theorem bytes_any (A : Option Addr) (c : Nat) (t : Tr) (w : World) (h : Holds w w.heap.size A t.len t) (hc : t.len ≤ c) (hm : c ≤ maxLen) (hsz : t.size ≤ 17179869184) (hbk : t.bulk ≤ 17179869184) :
    Calls Try.prog 9 #[.slice A t.len c] w fun e w' => ∃ A' N c', e = .returned (.slice A' N c') ∧ Own w' w.heap.size A' N c' t.bin ∧ Below w.heap.size w w' := by
  obtain ⟨xs, hxs, hseq⟩ := edges_seq 3 A c t w h hc hm (by omega)
  have hkl := kids_le t
  have hll := t.len_size
  obtain ⟨xl, hxl⟩ : ∃ n, n = t.len := ⟨_, rfl⟩
  have hbin : t.bin = cnt xl ++ t.kids := by rw [hxl]; rfl
  have Hbin := Lib.hid hbin
  rw [← hxl] at hc hseq hll ⊢
  have Hxs := Lib.hid hxs
  clear hxs hxl hbin
  refine (callsIn_wide (n := 4)).1 ?_
  refine callsIn_of_wp_marks Try.func9 rfl trivial ?_ rfl
  simp only [Try.ntmps9, List.size_toArray, List.length_cons, List.length_nil, Nat.reduceAdd, Nat.reduceSub, Array.replicate_succ, Array.replicate_zero, List.push_toArray, List.append_toArray, List.nil_append, List.cons_append]
  gi_wp2_with (first
    | (refine ⟨trivial, ?_⟩; gi_at_call 27; refine (callsIn_wide.2 (count_any A xl c w)).mono ?_; rintro e w1 ⟨A0, N0, c0, rfl, ho0, hb0⟩)
    | (refine ⟨trivial, ?_⟩; gi_at_call 28; refine (callsIn_wide.2 (edges_any _ _ _ _)).mono ?_; rintro e w2 ⟨rfl, rfl⟩))
  have hbx := heap_alloc_new w1 (.cells #[.slice A0 N0 c0] 24)
  have htx := heap_alloc_new (w1.alloc (.cells #[.slice A0 N0 c0] 24)) (.cells #[.slice A xl c] 28)
  simp only [World.size_alloc] at htx
  have hb2 : Below w.heap.size w ((w1.alloc (.cells #[.slice A0 N0 c0] 24)).alloc (.cells #[.slice A xl c] 28)) := (hb0.alloc hb0.size _).alloc (by simp; have := hb0.size; omega) _
  have hle0 := hb0.size
  refine wpIn_rangeFunc_T (T := kinds) (B := w.heap.size) rfl (by omega) (gf := 54) (lb := #[.pointer (some ⟨w1.heap.size + 1, 0, none⟩)]) rfl trivial (enters_of Try.func54 (by kernel_rfl) rfl)
    (hseq _ hb2 _ (by rw [cell_of_row _ _ 0 _ _ _ htx]; rfl)) (Below.refl _ _) hb2.size (fun _ => rfl)
    (BinI w.heap.size w1.heap.size w xl) (fun _ _ _ => False) (BinI.bears _ _ _ _) (fun _ _ _ _ h _ => h) ?start ?round ?done ?stop
  case start => exact ⟨⟨_, _, _, heap_keep hbx _, by simpa using (ho0.alloc _).alloc _⟩, hb2⟩
  case stop =>
    intro D c pre W _ _ h
    exact h.elim
  case done =>
    rintro D W hD ⟨⟨A1, N1, c1, hb1, ho1⟩, hB⟩ hK
    rw [Hxs.out, bin_flat, ← Hbin.out] at ho1
    have hc1 : W.cell? ⟨w1.heap.size, 0, none⟩ = some (.slice A1 N1 c1) := by rw [cell_of_row W _ 0 _ _ _ hb1]; rfl
    have Ho1 := Lib.hid ho1
    have HK := Lib.hid hK
    clear hb1 ho1 hK hkl
    gi_wp2
    refine ⟨by simp, .inl ⟨_, _, rfl, run_takeDeferred HK.out, ?_⟩⟩
    exact ⟨_, results_tmp rfl _ _ _, A1, N1, c1, rfl, ⟨ownsRow_putObj Ho1.out.row _ HK.out rfl⟩, hB.trans (belowK_b (w := w) (Nat.le_refl _) W D _ _ (by have := hb2.size; omega) HK.out rfl rfl)⟩
  case round =>
    rintro l pre x W hI hpre hle
    obtain ⟨sfx, hsfx⟩ := hpre
    have hxw : x.word ∈ t.flat 1 := by rw [← Hxs.out]; exact List.mem_map_of_mem (by rw [← hsfx]; simp)
    obtain ⟨_, _, hbn⟩ := flat_deep t 1 x.word hxw
    have hmore : (cnt xl ++ ((pre ++ [x]).map Handed.word).flatMap binOne).length ≤ 2 + t.kids.length := by
      rw [List.length_append, cnt_length, ← bin_flat t 1, ← Hxs.out, ← hsfx]
      simp only [List.map_append, List.flatMap_append, List.length_append]
      omega
    obtain ⟨⟨A1, N1, c1, hb1, ho1⟩, hB⟩ := hI
    obtain ⟨d, nm, xa, xn, xc⟩ := x
    have hr1 : cnt xl ++ ((pre ++ [(⟨d, nm, xa, xn, xc⟩ : Handed)]).map Handed.word).flatMap binOne = (cnt xl ++ (pre.map Handed.word).flatMap binOne) ++ textB nm ++ cnt xn := by
      simp [Handed.word, binOne]
    rw [hr1] at hmore
    obtain ⟨out, hout⟩ : ∃ o, o = cnt xl ++ (pre.map Handed.word).flatMap binOne := ⟨_, rfl⟩
    rw [← hout] at hmore hr1 ho1
    simp only [Handed.word] at hbn
    simp only [List.length_append, cnt_length] at hmore
    have Hr1 := Lib.hid hr1
    clear hr1 hout hsfx hseq h hxw
    simp only [Handed.args]
    gi_wp2
    refine ⟨Keeps.alloc _ W _ hB.size, fun W2 hk2 hsz2 => ?_⟩
    have hkI : Keeps (pI kinds) w.heap.size W W2 := (Keeps.alloc _ W _ hB.size).trans (hk2.of fun _ => pI_pC)
    have hgx : W2.heap[W.heap.size]? = some (.cells #[.string nm, .slice xa xn xc] 44 (0, 0)) := hk2.same _ _ (heap_alloc_new W _) rfl
    have hm2 : Mid1 w.heap.size w1.heap.size W2 W2 (.slice A1 N1 c1) A1 N1 c1 out := ⟨Keeps.refl _ _ _, hkI.same _ _ hb1 rfl, ho1.held hkI, by have := hkI.size; have := hB.size; omega, hle0⟩
    have hB2 : Below w.heap.size w W2 := hB.trans hkI.below
    have hm2' := hm2.drew
    obtain ⟨hc1, hf1, hl1⟩ := hm2'.cell1
    obtain ⟨hcx, hcy, hlx⟩ := hm2'.edge hgx
    clear hb1 ho1
    gi_wp2
    refine round_any (by kernel_rfl) (by kernel_rfl) ?_
    refine wpAny_take (i := 1) (v := .pointer (some ⟨W.heap.size, 0, none⟩)) rfl (by kernel_rfl) (by kernel_rfl) (by kernel_rfl) (fun _ _ _ h => h) (Or.inl ⟨by rfl, ?_⟩) ?_
    · intro w'
      go_simp
    simp only [List.getElem_toArray, List.getElem_cons_succ, List.getElem_cons_zero, Act.put, List.setIfInBounds_toArray, List.set_cons_zero, List.set_cons_succ]
    refine wpAny_ready (rs := [0, 2]) (by kernel_rfl) (by simp) (AllReady.cons rfl (fun K hK => ?_) (AllReady.cons rfl (fun K hK => ?_) AllReady.nil))
    · go_simp
      refine hK _ _ ?_
      clear hK K
      refine wpAny_ready (rs := [2]) (by kernel_rfl) (by simp) (AllReady.cons rfl (fun K hK => ?_) AllReady.nil)
      go_simp
      refine hK _ _ ?_
      clear hK K
      refine wpAny_ready (rs := [3]) (by kernel_rfl) (by simp) (AllReady.cons rfl (fun K hK => ?_) AllReady.nil)
      go_simp
      refine (putText_any none 0 0 [] nm _ (Sees.none_ _ _ _) (by omega) (by simp only [maxLen]; omega)).mono ?_
      rintro e w3 ⟨A3, N3, c3, rfl, ho3, hb3⟩
      have hm3 := hm2'.new hb3
      obtain ⟨hc13, hf13, hl13⟩ := hm3.cell1
      have hN3 : N1 + N3 ≤ 70368744177664 := by have h1 := hm3.own.len; have h2 := ho3.len; rw [List.nil_append] at h2; omega
      refine hK _ _ ?_
      clear hK K
      refine wpAny_ready (rs := [4]) (by kernel_rfl) (by simp) (AllReady.cons rfl (fun K hK => ?_) AllReady.nil)
      refine step_append_from rfl (.tmp 12) (.tmp 15) _ rfl rfl rfl hm3.own (From.sees ho3.sees) hN3 hm3.le.1 ?_
      intro A4 N4 c4 w4 ho4 hg4 hat4
      have hm4 := hm3.grow hg4 ho4
      obtain ⟨hc14, hf14, hl14⟩ := hm4.cell1
      refine hK _ _ ?_
      clear hK K
      refine wpAny_ready (rs := [5]) (by kernel_rfl) (by simp) (AllReady.cons rfl (fun K hK => ?_) AllReady.nil)
      go_simp
      refine hK _ _ ?_
      clear hK K
      refine wpAny_done (by kernel_rfl) ?_ _
      have hm5 := (hm4.store1 (.slice A4 N4 c4)).drew
      obtain ⟨hc15, hf15, hl15⟩ := hm5.cell1
      obtain ⟨hcx5, hcy5, hlx5⟩ := hm5.edge hgx
      gi_wp2
      refine round_last (by kernel_rfl) (by kernel_rfl) ?_
      refine wpAny_take (i := 1) (v := .pointer (some ⟨W.heap.size, 1, none⟩)) rfl (by kernel_rfl) (by kernel_rfl) (by kernel_rfl) (fun _ _ _ h => h) (Or.inl ⟨by rfl, ?_⟩) ?_
      · intro w'
        go_simp
      simp only [List.getElem_toArray, List.getElem_cons_succ, List.getElem_cons_zero, Act.put, List.setIfInBounds_toArray, List.set_cons_zero, List.set_cons_succ]
      refine wpAny_ready (rs := [0, 2]) (by kernel_rfl) (by simp) (AllReady.cons rfl (fun K hK => ?_) (AllReady.cons rfl (fun K hK => ?_) AllReady.nil))
      · go_simp
        refine hK _ _ ?_
        clear hK K
        refine wpAny_ready (rs := [2]) (by kernel_rfl) (by simp) (AllReady.cons rfl (fun K hK => ?_) AllReady.nil)
        go_simp
        refine hK _ _ ?_
        clear hK K
        refine wpAny_ready (rs := [3]) (by kernel_rfl) (by simp) (AllReady.cons rfl (fun K hK => ?_) AllReady.nil)
        go_simp
        refine (count_any xa xn xc _).mono ?_
        rintro e w6 ⟨A6, N6, c6, rfl, ho6, hb6⟩
        have hm6 := hm5.new hb6
        obtain ⟨hc16, hf16, hl16⟩ := hm6.cell1
        have hN6 : N4 + N6 ≤ 70368744177664 := by have h1 := hm6.own.len; have h2 := ho6.len; rw [cnt_length] at h2; rw [List.nil_append, List.length_append] at h1; omega
        refine hK _ _ ?_
        clear hK K
        refine wpAny_ready (rs := [4]) (by kernel_rfl) (by simp) (AllReady.cons rfl (fun K hK => ?_) AllReady.nil)
        refine step_append_from rfl (.tmp 17) (.tmp 20) _ rfl rfl rfl hm6.own (From.sees ho6.sees) hN6 hm6.le.1 ?_
        intro A7 N7 c7 w7 ho7 hg7 hat7
        have hm7 := hm6.grow hg7 ho7
        obtain ⟨hc17, hf17, hl17⟩ := hm7.cell1
        refine hK _ _ ?_
        clear hK K
        refine wpAny_ready (rs := [5]) (by kernel_rfl) (by simp) (AllReady.cons rfl (fun K hK => ?_) AllReady.nil)
        go_simp
        refine hK _ _ ?_
        clear hK K
        refine wpAny_done (by kernel_rfl) ?_ _
        have hm8 := hm7.store1 (.slice A7 N7 c7)
        dsimp only [onlyN]
        gi_wp2
        exact ⟨hm8.keeps, ⟨A7, N7, c7, hm8.box1, by rw [Hr1.out]; simpa using hm8.own⟩, hB2.trans hm8.keeps.below⟩
      · go_simp
        refine hK _ _ ?_
        clear hK K
        refine wpAny_ready (rs := [0, 3]) (by kernel_rfl) (by simp) (AllReady.cons rfl (fun K hK => ?_) (AllReady.cons rfl (fun K hK => ?_) AllReady.nil))
        · go_simp
          refine hK _ _ ?_
          clear hK K
          refine wpAny_ready (rs := [3]) (by kernel_rfl) (by simp) (AllReady.cons rfl (fun K hK => ?_) AllReady.nil)
          go_simp
          refine (count_any xa xn xc _).mono ?_
          rintro e w6 ⟨A6, N6, c6, rfl, ho6, hb6⟩
          have hm6 := hm5.new hb6
          obtain ⟨hc16, hf16, hl16⟩ := hm6.cell1
          have hN6 : N4 + N6 ≤ 70368744177664 := by have h1 := hm6.own.len; have h2 := ho6.len; rw [cnt_length] at h2; rw [List.nil_append, List.length_append] at h1; omega
          refine hK _ _ ?_
          clear hK K
          refine wpAny_ready (rs := [4]) (by kernel_rfl) (by simp) (AllReady.cons rfl (fun K hK => ?_) AllReady.nil)
          refine step_append_from rfl (.tmp 17) (.tmp 20) _ rfl rfl rfl hm6.own (From.sees ho6.sees) hN6 hm6.le.1 ?_
          intro A7 N7 c7 w7 ho7 hg7 hat7
          have hm7 := hm6.grow hg7 ho7
          obtain ⟨hc17, hf17, hl17⟩ := hm7.cell1
          refine hK _ _ ?_
          clear hK K
          refine wpAny_ready (rs := [5]) (by kernel_rfl) (by simp) (AllReady.cons rfl (fun K hK => ?_) AllReady.nil)
          go_simp
          refine hK _ _ ?_
          clear hK K
          refine wpAny_done (by kernel_rfl) ?_ _
          have hm8 := hm7.store1 (.slice A7 N7 c7)
          dsimp only [onlyN]
          gi_wp2
          exact ⟨hm8.keeps, ⟨A7, N7, c7, hm8.box1, by rw [Hr1.out]; simpa using hm8.own⟩, hB2.trans hm8.keeps.below⟩
        · go_simp
          refine (count_any xa xn xc _).mono ?_
          rintro e w6 ⟨A6, N6, c6, rfl, ho6, hb6⟩
          have hm6 := hm5.new hb6
          obtain ⟨hc16, hf16, hl16⟩ := hm6.cell1
          have hN6 : N4 + N6 ≤ 70368744177664 := by have h1 := hm6.own.len; have h2 := ho6.len; rw [cnt_length] at h2; rw [List.nil_append, List.length_append] at h1; omega
          refine hK _ _ ?_
          clear hK K
          refine wpAny_ready (rs := [0]) (by kernel_rfl) (by simp) (AllReady.cons rfl (fun K hK => ?_) AllReady.nil)
          go_simp
          refine hK _ _ ?_
          clear hK K
          refine wpAny_ready (rs := [4]) (by kernel_rfl) (by simp) (AllReady.cons rfl (fun K hK => ?_) AllReady.nil)
          refine step_append_from rfl (.tmp 17) (.tmp 20) _ rfl rfl rfl hm6.own (From.sees ho6.sees) hN6 hm6.le.1 ?_
          intro A7 N7 c7 w7 ho7 hg7 hat7
          have hm7 := hm6.grow hg7 ho7
          obtain ⟨hc17, hf17, hl17⟩ := hm7.cell1
          refine hK _ _ ?_
          clear hK K
          refine wpAny_ready (rs := [5]) (by kernel_rfl) (by simp) (AllReady.cons rfl (fun K hK => ?_) AllReady.nil)
          go_simp
          refine hK _ _ ?_
          clear hK K
          refine wpAny_done (by kernel_rfl) ?_ _
          have hm8 := hm7.store1 (.slice A7 N7 c7)
          dsimp only [onlyN]
          gi_wp2
          exact ⟨hm8.keeps, ⟨A7, N7, c7, hm8.box1, by rw [Hr1.out]; simpa using hm8.own⟩, hB2.trans hm8.keeps.below⟩
    · go_simp
      refine hK _ _ ?_
      clear hK K
      refine wpAny_ready (rs := [0, 3]) (by kernel_rfl) (by simp) (AllReady.cons rfl (fun K hK => ?_) (AllReady.cons rfl (fun K hK => ?_) AllReady.nil))
      · go_simp
        refine hK _ _ ?_
        clear hK K
        refine wpAny_ready (rs := [3]) (by kernel_rfl) (by simp) (AllReady.cons rfl (fun K hK => ?_) AllReady.nil)
        go_simp
        refine (putText_any none 0 0 [] nm _ (Sees.none_ _ _ _) (by omega) (by simp only [maxLen]; omega)).mono ?_
        rintro e w3 ⟨A3, N3, c3, rfl, ho3, hb3⟩
        have hm3 := hm2'.new hb3
        obtain ⟨hc13, hf13, hl13⟩ := hm3.cell1
        have hN3 : N1 + N3 ≤ 70368744177664 := by have h1 := hm3.own.len; have h2 := ho3.len; rw [List.nil_append] at h2; omega
        refine hK _ _ ?_
        clear hK K
        refine wpAny_ready (rs := [4]) (by kernel_rfl) (by simp) (AllReady.cons rfl (fun K hK => ?_) AllReady.nil)
        refine step_append_from rfl (.tmp 12) (.tmp 15) _ rfl rfl rfl hm3.own (From.sees ho3.sees) hN3 hm3.le.1 ?_
        intro A4 N4 c4 w4 ho4 hg4 hat4
        have hm4 := hm3.grow hg4 ho4
        obtain ⟨hc14, hf14, hl14⟩ := hm4.cell1
        refine hK _ _ ?_
        clear hK K
        refine wpAny_ready (rs := [5]) (by kernel_rfl) (by simp) (AllReady.cons rfl (fun K hK => ?_) AllReady.nil)
        go_simp
        refine hK _ _ ?_
        clear hK K
        refine wpAny_done (by kernel_rfl) ?_ _
        have hm5 := (hm4.store1 (.slice A4 N4 c4)).drew
        obtain ⟨hc15, hf15, hl15⟩ := hm5.cell1
        obtain ⟨hcx5, hcy5, hlx5⟩ := hm5.edge hgx
        gi_wp2
        refine round_last (by kernel_rfl) (by kernel_rfl) ?_
        refine wpAny_take (i := 1) (v := .pointer (some ⟨W.heap.size, 1, none⟩)) rfl (by kernel_rfl) (by kernel_rfl) (by kernel_rfl) (fun _ _ _ h => h) (Or.inl ⟨by rfl, ?_⟩) ?_
        · intro w'
          go_simp
        simp only [List.getElem_toArray, List.getElem_cons_succ, List.getElem_cons_zero, Act.put, List.setIfInBounds_toArray, List.set_cons_zero, List.set_cons_succ]
        refine wpAny_ready (rs := [0, 2]) (by kernel_rfl) (by simp) (AllReady.cons rfl (fun K hK => ?_) (AllReady.cons rfl (fun K hK => ?_) AllReady.nil))
        · go_simp
          refine hK _ _ ?_
          clear hK K
          refine wpAny_ready (rs := [2]) (by kernel_rfl) (by simp) (AllReady.cons rfl (fun K hK => ?_) AllReady.nil)
          go_simp
          refine hK _ _ ?_
          clear hK K
          refine wpAny_ready (rs := [3]) (by kernel_rfl) (by simp) (AllReady.cons rfl (fun K hK => ?_) AllReady.nil)
          go_simp
          refine (count_any xa xn xc _).mono ?_
          rintro e w6 ⟨A6, N6, c6, rfl, ho6, hb6⟩
          have hm6 := hm5.new hb6
          obtain ⟨hc16, hf16, hl16⟩ := hm6.cell1
          have hN6 : N4 + N6 ≤ 70368744177664 := by have h1 := hm6.own.len; have h2 := ho6.len; rw [cnt_length] at h2; rw [List.nil_append, List.length_append] at h1; omega
          refine hK _ _ ?_
          clear hK K
          refine wpAny_ready (rs := [4]) (by kernel_rfl) (by simp) (AllReady.cons rfl (fun K hK => ?_) AllReady.nil)
          refine step_append_from rfl (.tmp 17) (.tmp 20) _ rfl rfl rfl hm6.own (From.sees ho6.sees) hN6 hm6.le.1 ?_
          intro A7 N7 c7 w7 ho7 hg7 hat7
          have hm7 := hm6.grow hg7 ho7
          obtain ⟨hc17, hf17, hl17⟩ := hm7.cell1
          refine hK _ _ ?_
          clear hK K
          refine wpAny_ready (rs := [5]) (by kernel_rfl) (by simp) (AllReady.cons rfl (fun K hK => ?_) AllReady.nil)
          go_simp
          refine hK _ _ ?_
          clear hK K
          refine wpAny_done (by kernel_rfl) ?_ _
          have hm8 := hm7.store1 (.slice A7 N7 c7)
          dsimp only [onlyN]
          gi_wp2
          exact ⟨hm8.keeps, ⟨A7, N7, c7, hm8.box1, by rw [Hr1.out]; simpa using hm8.own⟩, hB2.trans hm8.keeps.below⟩
        · go_simp
          refine hK _ _ ?_
          clear hK K
          refine wpAny_ready (rs := [0, 3]) (by kernel_rfl) (by simp) (AllReady.cons rfl (fun K hK => ?_) (AllReady.cons rfl (fun K hK => ?_) AllReady.nil))
          · go_simp
            refine hK _ _ ?_
            clear hK K
            refine wpAny_ready (rs := [3]) (by kernel_rfl) (by simp) (AllReady.cons rfl (fun K hK => ?_) AllReady.nil)
            go_simp
            refine (count_any xa xn xc _).mono ?_
            rintro e w6 ⟨A6, N6, c6, rfl, ho6, hb6⟩
            have hm6 := hm5.new hb6
            obtain ⟨hc16, hf16, hl16⟩ := hm6.cell1
            have hN6 : N4 + N6 ≤ 70368744177664 := by have h1 := hm6.own.len; have h2 := ho6.len; rw [cnt_length] at h2; rw [List.nil_append, List.length_append] at h1; omega
            refine hK _ _ ?_
            clear hK K
            refine wpAny_ready (rs := [4]) (by kernel_rfl) (by simp) (AllReady.cons rfl (fun K hK => ?_) AllReady.nil)
            refine step_append_from rfl (.tmp 17) (.tmp 20) _ rfl rfl rfl hm6.own (From.sees ho6.sees) hN6 hm6.le.1 ?_
            intro A7 N7 c7 w7 ho7 hg7 hat7
            have hm7 := hm6.grow hg7 ho7
            obtain ⟨hc17, hf17, hl17⟩ := hm7.cell1
            refine hK _ _ ?_
            clear hK K
            refine wpAny_ready (rs := [5]) (by kernel_rfl) (by simp) (AllReady.cons rfl (fun K hK => ?_) AllReady.nil)
            go_simp
            refine hK _ _ ?_
            clear hK K
            refine wpAny_done (by kernel_rfl) ?_ _
            have hm8 := hm7.store1 (.slice A7 N7 c7)
            dsimp only [onlyN]
            gi_wp2
            exact ⟨hm8.keeps, ⟨A7, N7, c7, hm8.box1, by rw [Hr1.out]; simpa using hm8.own⟩, hB2.trans hm8.keeps.below⟩
          · go_simp
            refine (count_any xa xn xc _).mono ?_
            rintro e w6 ⟨A6, N6, c6, rfl, ho6, hb6⟩
            have hm6 := hm5.new hb6
            obtain ⟨hc16, hf16, hl16⟩ := hm6.cell1
            have hN6 : N4 + N6 ≤ 70368744177664 := by have h1 := hm6.own.len; have h2 := ho6.len; rw [cnt_length] at h2; rw [List.nil_append, List.length_append] at h1; omega
            refine hK _ _ ?_
            clear hK K
            refine wpAny_ready (rs := [0]) (by kernel_rfl) (by simp) (AllReady.cons rfl (fun K hK => ?_) AllReady.nil)
            go_simp
            refine hK _ _ ?_
            clear hK K
            refine wpAny_ready (rs := [4]) (by kernel_rfl) (by simp) (AllReady.cons rfl (fun K hK => ?_) AllReady.nil)
            refine step_append_from rfl (.tmp 17) (.tmp 20) _ rfl rfl rfl hm6.own (From.sees ho6.sees) hN6 hm6.le.1 ?_
            intro A7 N7 c7 w7 ho7 hg7 hat7
            have hm7 := hm6.grow hg7 ho7
            obtain ⟨hc17, hf17, hl17⟩ := hm7.cell1
            refine hK _ _ ?_
            clear hK K
            refine wpAny_ready (rs := [5]) (by kernel_rfl) (by simp) (AllReady.cons rfl (fun K hK => ?_) AllReady.nil)
            go_simp
            refine hK _ _ ?_
            clear hK K
            refine wpAny_done (by kernel_rfl) ?_ _
            have hm8 := hm7.store1 (.slice A7 N7 c7)
            dsimp only [onlyN]
            gi_wp2
            exact ⟨hm8.keeps, ⟨A7, N7, c7, hm8.box1, by rw [Hr1.out]; simpa using hm8.own⟩, hB2.trans hm8.keeps.below⟩
      · go_simp
        refine (putText_any none 0 0 [] nm _ (Sees.none_ _ _ _) (by omega) (by simp only [maxLen]; omega)).mono ?_
        rintro e w3 ⟨A3, N3, c3, rfl, ho3, hb3⟩
        have hm3 := hm2'.new hb3
        obtain ⟨hc13, hf13, hl13⟩ := hm3.cell1
        have hN3 : N1 + N3 ≤ 70368744177664 := by have h1 := hm3.own.len; have h2 := ho3.len; rw [List.nil_append] at h2; omega
        refine hK _ _ ?_
        clear hK K
        refine wpAny_ready (rs := [0]) (by kernel_rfl) (by simp) (AllReady.cons rfl (fun K hK => ?_) AllReady.nil)
        go_simp
        refine hK _ _ ?_
        clear hK K
        refine wpAny_ready (rs := [4]) (by kernel_rfl) (by simp) (AllReady.cons rfl (fun K hK => ?_) AllReady.nil)
        refine step_append_from rfl (.tmp 12) (.tmp 15) _ rfl rfl rfl hm3.own (From.sees ho3.sees) hN3 hm3.le.1 ?_
        intro A4 N4 c4 w4 ho4 hg4 hat4
        have hm4 := hm3.grow hg4 ho4
        obtain ⟨hc14, hf14, hl14⟩ := hm4.cell1
        refine hK _ _ ?_
        clear hK K
        refine wpAny_ready (rs := [5]) (by kernel_rfl) (by simp) (AllReady.cons rfl (fun K hK => ?_) AllReady.nil)
        go_simp
        refine hK _ _ ?_
        clear hK K
        refine wpAny_done (by kernel_rfl) ?_ _
        have hm5 := (hm4.store1 (.slice A4 N4 c4)).drew
        obtain ⟨hc15, hf15, hl15⟩ := hm5.cell1
        obtain ⟨hcx5, hcy5, hlx5⟩ := hm5.edge hgx
        gi_wp2
        refine round_last (by kernel_rfl) (by kernel_rfl) ?_
        refine wpAny_take (i := 1) (v := .pointer (some ⟨W.heap.size, 1, none⟩)) rfl (by kernel_rfl) (by kernel_rfl) (by kernel_rfl) (fun _ _ _ h => h) (Or.inl ⟨by rfl, ?_⟩) ?_
        · intro w'
          go_simp
        simp only [List.getElem_toArray, List.getElem_cons_succ, List.getElem_cons_zero, Act.put, List.setIfInBounds_toArray, List.set_cons_zero, List.set_cons_succ]
        refine wpAny_ready (rs := [0, 2]) (by kernel_rfl) (by simp) (AllReady.cons rfl (fun K hK => ?_) (AllReady.cons rfl (fun K hK => ?_) AllReady.nil))
        · go_simp
          refine hK _ _ ?_
          clear hK K
          refine wpAny_ready (rs := [2]) (by kernel_rfl) (by simp) (AllReady.cons rfl (fun K hK => ?_) AllReady.nil)
          go_simp
          refine hK _ _ ?_
          clear hK K
          refine wpAny_ready (rs := [3]) (by kernel_rfl) (by simp) (AllReady.cons rfl (fun K hK => ?_) AllReady.nil)
          go_simp
          refine (count_any xa xn xc _).mono ?_
          rintro e w6 ⟨A6, N6, c6, rfl, ho6, hb6⟩
          have hm6 := hm5.new hb6
          obtain ⟨hc16, hf16, hl16⟩ := hm6.cell1
          have hN6 : N4 + N6 ≤ 70368744177664 := by have h1 := hm6.own.len; have h2 := ho6.len; rw [cnt_length] at h2; rw [List.nil_append, List.length_append] at h1; omega
          refine hK _ _ ?_
          clear hK K
          refine wpAny_ready (rs := [4]) (by kernel_rfl) (by simp) (AllReady.cons rfl (fun K hK => ?_) AllReady.nil)
          refine step_append_from rfl (.tmp 17) (.tmp 20) _ rfl rfl rfl hm6.own (From.sees ho6.sees) hN6 hm6.le.1 ?_
          intro A7 N7 c7 w7 ho7 hg7 hat7
          have hm7 := hm6.grow hg7 ho7
          obtain ⟨hc17, hf17, hl17⟩ := hm7.cell1
          refine hK _ _ ?_
          clear hK K
          refine wpAny_ready (rs := [5]) (by kernel_rfl) (by simp) (AllReady.cons rfl (fun K hK => ?_) AllReady.nil)
          go_simp
          refine hK _ _ ?_
          clear hK K
          refine wpAny_done (by kernel_rfl) ?_ _
          have hm8 := hm7.store1 (.slice A7 N7 c7)
          dsimp only [onlyN]
          gi_wp2
          exact ⟨hm8.keeps, ⟨A7, N7, c7, hm8.box1, by rw [Hr1.out]; simpa using hm8.own⟩, hB2.trans hm8.keeps.below⟩
        · go_simp
          refine hK _ _ ?_
          clear hK K
          refine wpAny_ready (rs := [0, 3]) (by kernel_rfl) (by simp) (AllReady.cons rfl (fun K hK => ?_) (AllReady.cons rfl (fun K hK => ?_) AllReady.nil))
          · go_simp
            refine hK _ _ ?_
            clear hK K
            refine wpAny_ready (rs := [3]) (by kernel_rfl) (by simp) (AllReady.cons rfl (fun K hK => ?_) AllReady.nil)
            go_simp
            refine (count_any xa xn xc _).mono ?_
            rintro e w6 ⟨A6, N6, c6, rfl, ho6, hb6⟩
            have hm6 := hm5.new hb6
            obtain ⟨hc16, hf16, hl16⟩ := hm6.cell1
            have hN6 : N4 + N6 ≤ 70368744177664 := by have h1 := hm6.own.len; have h2 := ho6.len; rw [cnt_length] at h2; rw [List.nil_append, List.length_append] at h1; omega
            refine hK _ _ ?_
            clear hK K
            refine wpAny_ready (rs := [4]) (by kernel_rfl) (by simp) (AllReady.cons rfl (fun K hK => ?_) AllReady.nil)
            refine step_append_from rfl (.tmp 17) (.tmp 20) _ rfl rfl rfl hm6.own (From.sees ho6.sees) hN6 hm6.le.1 ?_
            intro A7 N7 c7 w7 ho7 hg7 hat7
            have hm7 := hm6.grow hg7 ho7
            obtain ⟨hc17, hf17, hl17⟩ := hm7.cell1
            refine hK _ _ ?_
            clear hK K
            refine wpAny_ready (rs := [5]) (by kernel_rfl) (by simp) (AllReady.cons rfl (fun K hK => ?_) AllReady.nil)
            go_simp
            refine hK _ _ ?_
            clear hK K
            refine wpAny_done (by kernel_rfl) ?_ _
            have hm8 := hm7.store1 (.slice A7 N7 c7)
            dsimp only [onlyN]
            gi_wp2
            exact ⟨hm8.keeps, ⟨A7, N7, c7, hm8.box1, by rw [Hr1.out]; simpa using hm8.own⟩, hB2.trans hm8.keeps.below⟩
          · go_simp
            refine (count_any xa xn xc _).mono ?_
            rintro e w6 ⟨A6, N6, c6, rfl, ho6, hb6⟩
            have hm6 := hm5.new hb6
            obtain ⟨hc16, hf16, hl16⟩ := hm6.cell1
            have hN6 : N4 + N6 ≤ 70368744177664 := by have h1 := hm6.own.len; have h2 := ho6.len; rw [cnt_length] at h2; rw [List.nil_append, List.length_append] at h1; omega
            refine hK _ _ ?_
            clear hK K
            refine wpAny_ready (rs := [0]) (by kernel_rfl) (by simp) (AllReady.cons rfl (fun K hK => ?_) AllReady.nil)
            go_simp
            refine hK _ _ ?_
            clear hK K
            refine wpAny_ready (rs := [4]) (by kernel_rfl) (by simp) (AllReady.cons rfl (fun K hK => ?_) AllReady.nil)
            refine step_append_from rfl (.tmp 17) (.tmp 20) _ rfl rfl rfl hm6.own (From.sees ho6.sees) hN6 hm6.le.1 ?_
            intro A7 N7 c7 w7 ho7 hg7 hat7
            have hm7 := hm6.grow hg7 ho7
            obtain ⟨hc17, hf17, hl17⟩ := hm7.cell1
            refine hK _ _ ?_
            clear hK K
            refine wpAny_ready (rs := [5]) (by kernel_rfl) (by simp) (AllReady.cons rfl (fun K hK => ?_) AllReady.nil)
            go_simp
            refine hK _ _ ?_
            clear hK K
            refine wpAny_done (by kernel_rfl) ?_ _
            have hm8 := hm7.store1 (.slice A7 N7 c7)
            dsimp only [onlyN]
            gi_wp2
            exact ⟨hm8.keeps, ⟨A7, N7, c7, hm8.box1, by rw [Hr1.out]; simpa using hm8.own⟩, hB2.trans hm8.keeps.below⟩
end Go.Proofs.Ytebiinjcegdmpaa
