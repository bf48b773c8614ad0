/- ReportUnlike. No conditions. -/
import Derived.Test.YtclgemkdlgpekaaReLongW
import Derived.Deep.RegionHeld3
namespace Go.Proofs.Ytclgemkdlgpekaa.Re
open Go.RowKit Go.Proofs.Ytclgemkdlgpekaa.Pt
set_option maxRecDepth 100000

theorem unlike_eq (p q : List ByteArray) : (mkB (pathL p) = mkB (pathL q)) ↔ p = q := by
  constructor
  · intro h
    have e : (mkB (pathL p)).data.toList = (mkB (pathL q)).data.toList := by rw [h]
    exact pathL_inj e
  · rintro rfl; rfl
/-- The text of a path with one more name, out of the path's text. -/
theorem snoc_text (p : List ByteArray) (s : ByteArray) : pathL (p ++ [s]) = (pathL p).take ((pathL p).length - (if p.length = 0 then 1 else 0)) ++ 47 :: quo s.data.toList := by
  rw [pathL_snoc]
  cases p with
  | nil => rfl
  | cons x p => rw [if_neg (by simp), Nat.sub_zero, List.take_length]; rfl

section
variable {w : World} {ops : Array Oper} {o : Oper} {a : Act} {Q : Exit → Act → World → Prop}
/-- An append at a guarded operation of a region that draws its order. -/
theorem step_append_rowG {P : Program} {K : Act → World → Prop} {E : Prop} (hw : Region.wanted o (yielded ops a.tmps) = true) (s x : Operand) (t tx : TypeId) (hop : o.op = .call { callee := .builtin .append, args := #[s, x], argTypes := #[t, tx] })
    {base n c m size bytes : Nat} {A : Option Addr} {xs ys : List Value} {e : TypeId} {z vx : Value} (he : Elem P t e z size bytes)
    (hs : a.eval s = .slice A n c) (hxv : a.eval x = vx) (ho : w.ownsRow base e size (.slice A n c) n xs) (hx : Src P size tx vx m ys w) {N : Nat} (hN : n + m = N) (h46 : N ≤ 1099511627776) (hbase : base ≤ w.heap.size)
    (h : ∀ A' c' w', w'.ownsRow base e size (.slice A' N c') N (xs ++ ys) → w.grownBy w' (Value.slice A n c).ownBlock → (∀ a, A' = some a → a.block = w.heap.size ∨ some a.block = (Value.slice A n c).ownBlock) → K (a.put o.dst (.slice A' N c')) w') :
    if Region.wanted o (yielded ops a.tmps) = true then Oper.wp P o a w K Q else E := by
  subst hN
  rw [if_pos hw]
  obtain ⟨A', c', w', hr, h1, h2, h3⟩ := run_append_row o.type he ho hx h46 hbase
  unfold Oper.wp
  simp [execOp, hop, resolve, invoke, builtin, hs, hxv, hr, Result.andThen]
  exact h A' c' w' h1 h2 h3
end
theorem src_at {W : World} {g : Nat} {s : ByteArray} (h : W.heap[g]? = some (.cells #[.string s] 9 (0, 0))) : Src Try.prog 1 22 (.slice (some ⟨g, 0, none⟩) 1 1) 1 (strs [s]) W :=
  Src.laid Try.underlying22 rfl (fun j u hu => by rw [cell_of_row _ _ _ _ _ _ h, Nat.zero_add, ← hu]; simp [strs]) (strs_one _)
theorem own_app {W : World} {base n c : Nat} {A : Option Addr} {p : List ByteArray} (h : W.ownsRow base 9 1 (.slice A n c) n (strs [] ++ strs p)) : OwnS W base A n c p := h
theorem quotedR_any (s : ByteArray) (w : World) (hs : s.size ≤ 1099511627776) :
    Calls Try.prog 18 #[.string s] w fun e w' => e = .returned (.string (mkB (quo s.data.toList))) ∧ ∃ q, w' = w.drewN q :=
  (rquoted_any s w hs).mono fun _ _ ⟨⟨O, h1, h2⟩, h3⟩ => ⟨by rw [h1, eq_mk h2], h3⟩

set_option maxHeartbeats 4000000 in
theorem unlike_walk (p q : List ByteArray) (s : ByteArray) (A A2 : Option Addr) (n c n2 c2 : Nat) (w : World) (h : SeesV w w.heap.size A n (p.map Value.string)) (hc : n ≤ c) (hm : c ≤ maxLen) (h2 : SeesV w w.heap.size A2 n2 (q.map Value.string)) (hc2 : n2 ≤ c2) (hm2 : c2 ≤ maxLen) :
    Calls Try.prog 6 #[.slice A n c, .slice A2 n2 c2, .string s] w fun e w' => e = .returned (.bool true) ∧ Below w.heap.size w w' := by
  have HK := Lib.hid (known_any w)
  have Hs := Lib.hid h
  have Hs2 := Lib.hid h2
  have Hm := Lib.hid (Nat.le_trans hc hm)
  have Hm2 := Lib.hid (Nat.le_trans hc2 hm2)
  clear h hc hm h2 hc2 hm2
  go_enter Try.func6, Try.ntmps6
  go_wp2_with fail
  (with_reducible refine HK.out.mono ?_)
  rintro e w1 ⟨rfl, hb1⟩
  have HB1 := Lib.hid hb1
  have HF := Lib.hid (few_any p A n c w.heap.size w1 (Hs.out.below hb1) Hm.out)
  have HF2 := Lib.hid (few_any q A2 n2 c2 w.heap.size w1 (Hs2.out.below hb1) Hm2.out)
  clear hb1
  go_wp2_with fail
  (with_reducible refine HF.out.mono ?_)
  rintro e w2 ⟨⟨v, rfl, hv⟩, rfl⟩
  cases v with
  | false =>
    clear hv
    go_wp2_with fail
    go_ret
    exact ⟨rfl, HB1.out⟩
  | true =>
    obtain ⟨hv1, hv2⟩ := hv rfl
    have Hbk := Lib.hid (bulk_few hv1 hv2)
    clear hv hv1 hv2
    go_wp2_with fail
    (with_reducible refine HF2.out.mono ?_)
    rintro e w3 ⟨⟨v2, rfl, hv⟩, rfl⟩
    cases v2 with
    | false =>
      clear hv
      go_wp2_with fail
      go_ret
      exact ⟨rfl, HB1.out⟩
    | true =>
      obtain ⟨hv1, hv2⟩ := hv rfl
      have Hbk2 := Lib.hid (bulk_few hv1 hv2)
      clear hv hv1 hv2
      by_cases h60 : s.size ≤ 60
      · have h60' : ¬ ((60 : Int) < (s.size : Int)) := by omega
        have hpl := pathL_len p
        have hbk := Hbk.out
        have hbk2 := Hbk2.out
        have hnl := Hs.out.len
        rw [List.length_map] at hnl
        have hlb := len_bulk p
        have hn30 : n ≤ 1073741824 := by omega
        have hn40 : n ≤ 1099511627776 := by omega
        have hn41 : n + 1 ≤ 1099511627776 := by omega
        have HR := Lib.hid (rpath_any p A n c w.heap.size w3 (Hs.out.below HB1.out) (by omega))
        have HP := Lib.hid (fun (W : World) (hW : Below w.heap.size w W) => path_any p A n c w.heap.size W hW.size (Hs.out.below hW) (by omega))
        have HQ := Lib.hid (fun (W : World) (hW : Below w.heap.size w W) => path_any q A2 n2 c2 w.heap.size W hW.size (Hs2.out.below hW) (by omega))
        have HS := Lib.hid (fun (W : World) (hW : Below w.heap.size w W) => same_any p q A A2 n c n2 c2 w.heap.size W (Hs.out.below hW) (Hs2.out.below hW) hn30)
        have HO := Lib.hid (fun (W : World) (_ : Below w.heap.size w W) => only_any A n c W)
        have HQu := Lib.hid (fun (W : World) (_ : Below w.heap.size w W) => quotedR_any s W (by omega))
        have HPs := Lib.hid (fun (W : World) (g : Nat) (h : W.heap[g]? = some (.cells #[.string s] 9 (0, 0))) => path_any [s] (some ⟨g, 0, none⟩) 1 1 W.heap.size W (Nat.le_refl _) ⟨rfl, fun j u hu => ⟨g, 0, rfl, (Array.getElem?_eq_some_iff.1 h).1, by rw [Nat.zero_add, cell_of_row _ _ _ _ _ _ h]; simpa using hu⟩⟩ (by simp [bulk]; omega))
        have HPa := Lib.hid (fun (W : World) (A' : Option Addr) (c' : Nat) (h : OwnS W w.heap.size A' (n + 1) c' (p ++ [s])) => path_any (p ++ [s]) A' (n + 1) c' W.heap.size W (Nat.le_refl _) (OwnS.sees h) (by rw [bulk_snoc]; omega))
        obtain ⟨b, hb⟩ : ∃ b, b = decide (p = q) := ⟨_, rfl⟩
        rw [← hb] at HS
        obtain ⟨X, hX⟩ : ∃ X : ByteArray, X = mkB (pathL p) := ⟨_, rfl⟩
        obtain ⟨Y, hY⟩ : ∃ Y : ByteArray, Y = mkB (pathL q) := ⟨_, rfl⟩
        obtain ⟨Q, hQ⟩ : ∃ Q : ByteArray, Q = mkB (quo s.data.toList) := ⟨_, rfl⟩
        obtain ⟨Z, hZ⟩ : ∃ Z : ByteArray, Z = mkB (pathL [s]) := ⟨_, rfl⟩
        obtain ⟨V, hV⟩ : ∃ V : ByteArray, V = mkB (pathL (p ++ [s])) := ⟨_, rfl⟩
        rw [← hX] at HR HP
        rw [← hY] at HQ
        rw [← hQ] at HQu
        rw [← hZ] at HPs
        rw [← hV] at HPa
        have hXY : (X.toList == Y.toList) = b := by
          rw [hb]
          by_cases e : p = q
          · rw [decide_eq_true e, hX, hY, e]; exact beq_self_eq_true _
          · rw [decide_eq_false e]
            exact ne_beq (fun e2 => e ((unlike_eq p q).1 (by rw [← hX, ← hY, e2])))
        have hXs : X.size = (pathL p).length := by rw [hX, size_mk]
        have hQs : Q.size = (quo s.data.toList).length := by rw [hQ, size_mk]
        have hql := quo_len s
        have hadd1 := fun W => run_string_add_sum (P := Try.prog) W ⟨#[47]⟩ Q (by have : (ByteArray.mk #[47]).size = 1 := rfl; omega)
        have eZ : (⟨#[47]⟩ : ByteArray) ++ Q = Z := ba_eq (by rw [app_mk, hQ, hZ]; show 47 :: quo s.data.toList = pathL [s]; simp [pathL, pathT])
        rw [eZ] at hadd1
        have Hn0 := Lib.hid hnl
        obtain ⟨d, hd⟩ : ∃ d : Nat, d = if n = 0 then 1 else 0 := ⟨_, rfl⟩
        have hdi : (if n = 0 then (1 : Int) else 0) = (d : Int) := by rw [hd]; split <;> rfl
        have hXpos : 1 ≤ X.size := by
          rw [hXs]
          cases p with
          | nil => exact Nat.le_refl _
          | cons x p => rw [pathL_ne (by simp), pathT_cons]; simp
        have hdX : d ≤ X.size := by rw [hd]; split <;> omega
        rw [hdi] at HO
        obtain ⟨X1, hX1⟩ : ∃ X1, X1 = X.extract 0 (X.size - d) := ⟨_, rfl⟩
        have hsl : ∀ W, (Instr.slice 9 (.string X) none (some (.int .i64 ((X.size : Int) - (d : Int)))) none).run Try.prog W = .ok (.string X1) W := by
          intro W
          have := run_slice_string_h (P := Try.prog) W 9 X rfl .i64 ((X.size : Int) - (d : Int)) (by omega) (by omega)
          rw [this, hX1, show ((X.size : Int) - (d : Int)).toNat = X.size - d by omega]
        have hX1l : X1.data.toList = (pathL p).take ((pathL p).length - d) := by
          rw [hX1, ByteArray.data_extract, Array.toList_extract, List.extract_eq_take_drop, hXs, hX]
          simp
        have hX1s : X1.size ≤ X.size := by rw [hX1, ByteArray.size_extract]; omega
        have hadd2 := fun W => run_string_add_sum (P := Try.prog) W X1 ⟨#[47]⟩ (by have : (ByteArray.mk #[47]).size = 1 := rfl; omega)
        obtain ⟨X2, hX2⟩ : ∃ X2, X2 = X1 ++ ⟨#[47]⟩ := ⟨_, rfl⟩
        rw [← hX2] at hadd2
        have hX2s : X2.size = X1.size + 1 := by rw [hX2, ByteArray.size_append]; rfl
        have hadd3 := fun W => run_string_add_sum (P := Try.prog) W X2 Q (by omega)
        have eV : X2 ++ Q = V := ba_eq (by
          rw [app_mk, hX2, app_mk, hX1l, hQ, hV]
          show _ = pathL (p ++ [s])
          rw [snoc_text, ← hnl, hd]
          simp)
        rw [eV] at hadd3
        have hXi : (X.size : Int) ≤ 4000 := by omega
        have hwr : IntKind.i64.wrap ((X.size : Int) - (d : Int)) = (X.size : Int) - (d : Int) := by rw [IntKind.wrap_i64]; omega
        have hbb : (b == b) = true := beq_self_eq_true _
        have hZZ : (Z.toList == Z.toList) = true := beq_self_eq_true _
        have hVV : (V.toList == V.toList) = true := beq_self_eq_true _
        clear hpl hbk hbk2 hnl hlb hX hY hQ hZ hV eZ eV hXs hQs hql hXpos hX1 hX1l hX1s hX2 hX2s hd hdi hb h60
        go_wp2_with fail
        (with_reducible refine HR.out.mono ?_)
        rintro e w4 ⟨rfl, hq4⟩
        have HB4 := Lib.hid (show Below w.heap.size w w4 from HB1.out.trans (below_dn hq4))
        clear hq4
        go_wp2_with fail
        have hb0 := HB4.out
        have HL := Lib.hid (fun (W : World) (hW : Below w.heap.size w W) => (World.ownsRow_lit W #[] 0 hW.size (by simp [maxLen]) rfl : (W.alloc (Obj.cells #[] 9)).ownsRow w.heap.size 9 1 (.slice (some ⟨W.heap.size, 0, none⟩) 0 0) 0 (strs [])))
        have HSrc := Lib.hid (fun (W : World) (hW : Below w.heap.size w W) => src_sees (c := c) (Hs.out.below hW))
        go_region_held3 (fun W => Below w.heap.size w W) (first | with_reducible exact hb0.drew | with_reducible exact hb0 | with_reducible exact hb5 | with_reducible exact hb6 | with_reducible exact hb7 | with_reducible exact hb7.alloc hb7.size _ | with_reducible exact hb8 | with_reducible exact hb9 | with_reducible exact hb9.alloc hb9.size _ | with_reducible exact (hb9.alloc hb9.size _).alloc (hb9.alloc hb9.size _).size _ | with_reducible exact hb10 | with_reducible exact hb10.alloc hb10.size _ | with_reducible exact hb11 | with_reducible exact hb12 | with_reducible exact hb13)
          (first
            | (go_at_call 10; (with_reducible refine (HP.out _ (by first | exact hb0.drew | exact hb0)).mono ?_); rintro e w5 ⟨rfl, hw5⟩; have hb5 : Below w.heap.size w w5 := by first | exact hb0.drew.trans (hw5.mono hb0.drew.size) | exact hb0.trans (hw5.mono hb0.size))
            | (go_at_call 10; (with_reducible refine (HQ.out _ hb5).mono ?_); rintro e w6 ⟨rfl, hw6⟩; have hb6 := hb5.trans (hw6.mono hb5.size))
            | (go_at_call 13; (with_reducible refine (HS.out _ hb6).mono ?_); rintro e w7 ⟨rfl, hw7⟩; have hb7 : Below w.heap.size w w7 := hb6.trans (below_dn hw7))
            | (go_at_call 10; (with_reducible refine (HPs.out _ w7.heap.size (heap_alloc_new w7 _)).mono ?_); rintro e w8 ⟨rfl, hw8⟩; have hb8 := (hb7.alloc hb7.size _).trans (hw8.mono (hb7.alloc hb7.size _).size))
            | (go_at_call 18; (with_reducible refine (HQu.out _ hb8).mono ?_); rintro e w9 ⟨rfl, hw9⟩; have hb9 : Below w.heap.size w w9 := hb8.trans (below_dn hw9))
            | (refine step_append_rowG (by rfl) (.tmp 44) (.tmp 45) _ _ rfl elem_str rfl rfl (HL.out w9 hb9) (HSrc.out _ (hb9.alloc hb9.size _)) (Nat.zero_add n) hn40 (hb9.alloc hb9.size _).size ?_; intro A10 c10 w10 ho10 hg10 hat10; have hb10 : Below w.heap.size w w10 := (hb9.alloc hb9.size _).grown hg10 (hb9.alloc hb9.size _).size (fun k hk => ((HL.out w9 hb9).lt k hk).1); have ho10' := own_app ho10; obtain ⟨A11, c11, w11, hr11, ho11, hg11, hat11⟩ := run_append_row 22 elem_str (World.ownsRow.alloc ho10' (Obj.cells #[Value.string s] 9)) (src_str w10 s _ rfl) hn41 (hb10.alloc hb10.size _).size; have hb11 : Below w.heap.size w w11 := (hb10.alloc hb10.size _).grown hg11 (hb10.alloc hb10.size _).size (fun k hk => ((World.ownsRow.alloc ho10' (Obj.cells #[Value.string s] 9)).lt k hk).1); have ho11' : OwnS w11 w.heap.size A11 (n + 1) c11 (p ++ [s]) := (by unfold OwnS; rw [strs_app]; exact ho11); clear ho11 hg11 hat11 ho10 hg10 hat10)
            | (have hz := (hb9.alloc hb9.size (Obj.cells #[] 9)).alloc (hb9.alloc hb9.size (Obj.cells #[] 9)).size (Obj.cells #[Value.string s] 9); have hq1 := World.ownsRow.alloc (HL.out w9 hb9) (Obj.cells #[Value.string s] 9); refine step_append_rowG (by rfl) (.tmp 44) (.tmp 45) _ _ rfl elem_str rfl rfl hq1 (HSrc.out _ hz) (Nat.zero_add n) hn40 hz.size ?_; intro A10 c10 w10 ho10 hg10 hat10; have hb10 : Below w.heap.size w w10 := hz.grown hg10 hz.size (fun k hk => (hq1.lt k hk).1); have hs10 : w10.heap[w9.heap.size + 1]? = some (Obj.cells #[Value.string s] 9) := (by have h := heap_alloc_new (w9.alloc (Obj.cells #[] 9)) (Obj.cells #[Value.string s] 9); rw [World.size_alloc] at h; exact (hg10.block _ (Array.getElem?_eq_some_iff.1 h).1 (by simp [Value.ownBlock])).trans h); have ho10' := own_app ho10; clear ho10 hg10 hat10)
            | (have hz := (hb9.alloc hb9.size (Obj.cells #[Value.string s] 9)).alloc (hb9.alloc hb9.size (Obj.cells #[Value.string s] 9)).size (Obj.cells #[] 9); have hq1 : ((w9.alloc (Obj.cells #[Value.string s] 9)).alloc (Obj.cells #[] 9)).ownsRow w.heap.size 9 1 (.slice (some ⟨w9.heap.size + 1, 0, none⟩) 0 0) 0 (strs []) := (by have h := HL.out (w9.alloc (Obj.cells #[Value.string s] 9)) (hb9.alloc hb9.size (Obj.cells #[Value.string s] 9)); rw [World.size_alloc] at h; exact h); refine step_append_rowG (by rfl) (.tmp 44) (.tmp 45) _ _ rfl elem_str rfl rfl hq1 (HSrc.out _ hz) (Nat.zero_add n) hn40 hz.size ?_; intro A10 c10 w10 ho10 hg10 hat10; have hb10 : Below w.heap.size w w10 := hz.grown hg10 hz.size (fun k hk => (hq1.lt k hk).1); have hs10 := (hg10.block w9.heap.size (by rw [World.size_alloc, World.size_alloc]; omega) (by simp only [Value.ownBlock]; intro e; injection e with e; omega)).trans (heap_keep (heap_alloc_new w9 (Obj.cells #[Value.string s] 9)) (Obj.cells #[] 9)); have ho10' := own_app ho10; clear ho10 hg10 hat10)
            | (have hq1 := World.ownsRow.alloc ho10' (Obj.cells #[Value.string s] 9); have hq2 := src_str w10 s _ rfl; have hq3 := (hb10.alloc hb10.size (Obj.cells #[Value.string s] 9)).size; refine step_append_rowG ?w1 (.tmp 46) (.tmp 48) _ _ ?w2 elem_str ?w3 ?w4 hq1 hq2 rfl hn41 hq3 ?w5; (case w2 => rfl); (case w1 => rfl); (case w3 => rfl); (case w4 => rfl); go_loud (intro A11 c11 w11 ho11 hg11 hat11); go_loud (have hb11 : Below w.heap.size w w11 := (hb10.alloc hb10.size _).grown hg11 (hb10.alloc hb10.size _).size (fun k hk => (hq1.lt k hk).1)); go_loud (have ho11' : OwnS w11 w.heap.size A11 (n + 1) c11 (p ++ [s]) := (by unfold OwnS; rw [strs_app]; exact ho11)); clear ho11 hg11 hat11)
            | (refine step_append_rowG (by rfl) (.tmp 46) (.tmp 48) _ _ rfl elem_str rfl rfl ho10' (src_at hs10) rfl hn41 hb10.size ?_; intro A11 c11 w11 ho11 hg11 hat11; have hb11 : Below w.heap.size w w11 := hb10.grown hg11 hb10.size (fun k hk => (World.ownsRow.lt ho10' k hk).1); have ho11' : OwnS w11 w.heap.size A11 (n + 1) c11 (p ++ [s]) := (by unfold OwnS; rw [strs_app]; exact ho11); clear ho11 hg11 hat11)
            | (go_at_call 10; (with_reducible refine (HPa.out _ _ _ ho11').mono ?_); rintro e w12 ⟨rfl, hw12⟩; have hb12 := hb11.trans (hw12.mono hb11.size))
            | (go_at_call 19; (with_reducible refine (HO.out _ hb12).mono ?_); rintro e _ ⟨rfl, rfl⟩)
            | (go_at_call 18; (with_reducible refine (HQu.out _ hb12).mono ?_); rintro e w13 ⟨rfl, hw13⟩; have hb13 : Below w.heap.size w w13 := hb12.trans (below_dn hw13)))
        all_goals
          go_wp2_with fail
          go_ret
          exact ⟨rfl, hb13⟩
      · have h60' : (60 : Int) < (s.size : Int) := by omega
        clear h60
        go_wp2_with fail
        go_ret
        exact ⟨rfl, HB1.out⟩
end Go.Proofs.Ytclgemkdlgpekaa.Re
