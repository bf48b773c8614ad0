/- NamesAll: of any sets what is in them, in both, in one or both, not in one, whether they are the same, or none, is the document's: the law's walk. No conditions. -/
import Derived.Test.YtnjabeeogmldlaaNmMake
import Derived.Test.YtnjabeeogmldlaaNmAllC
namespace Go.Proofs.Ytnjabeeogmldlaa.Nm
open Go.RowKit
set_option maxRecDepth 100000

set_option maxHeartbeats 8000000 in
theorem all_walk (a b : St) (A A2 : Option Addr) (n c n2 c2 : Nat) (q : ByteArray) (w : World) (h : In w a A n) (h2 : In w b A2 n2) (hla : ∀ x ∈ a.l, x.length ≤ maxLen) (hlb : ∀ x ∈ b.l, x.length ≤ maxLen) :
    Calls Try.prog 12 #[.agg #[.bool a.all, .slice A n c], .agg #[.bool b.all, .slice A2 n2 c2], .string q] w fun e w' => e = .returned (.bool true) ∧ Below w.heap.size w w' := by
  obtain ⟨W1, hW1, g0, g1, gs, gb⟩ := two w (Obj.cells #[Value.bool a.all, Value.slice A n c] 65) (Obj.cells #[Value.bool b.all, Value.slice A2 n2 c2] 65)
  have HFa := Lib.hid (fun W => few_any a.all A n c W)
  have HFb := Lib.hid (fun W => few_any b.all A2 n2 c2 W)
  have hgs : w.heap.size + 2 ≤ W1.heap.size := by omega
  clear gs
  by_cases hn : n ≤ 25
  · rw [decide_eq_true hn] at HFa
    by_cases hn2 : n2 ≤ 25
    · rw [decide_eq_true hn2] at HFb
      have HMa : Hid (∀ W, Below W1.heap.size W1 W → Calls Try.prog 47 #[.agg #[.bool a.all, .slice A n c]] W (Made W)) := Lib.hid fun W hb => make_any a A n c W ((h.below gb).below hb) (by omega) hla
      have HMb : Hid (∀ W, Below W1.heap.size W1 W → Calls Try.prog 47 #[.agg #[.bool b.all, .slice A2 n2 c2]] W (Made W)) := Lib.hid fun W hb => make_any b A2 n2 c2 W ((h2.below gb).below hb) (by omega) hlb
      have Ha := Lib.hid (h.below gb)
      have Hb := Lib.hid (h2.below gb)
      have HK := Lib.hid (fun W (hb : Below W1.heap.size W1 W) => have t0 := box2 (Below.box hb g0); have t1 := box2 (Below.box hb g1); (⟨hb, t0.1, t0.2.1, t1.1, t1.2.1⟩ : Below W1.heap.size W1 W ∧ W.cell? ⟨w.heap.size, 0, none⟩ = some (.bool a.all) ∧ W.cell? ⟨w.heap.size, 1, none⟩ = some (.slice A n c) ∧ W.cell? ⟨w.heap.size + 1, 0, none⟩ = some (.bool b.all) ∧ W.cell? ⟨w.heap.size + 1, 1, none⟩ = some (.slice A2 n2 c2)))
      have Hgb := Lib.hid gb
      have Hn := Lib.hid hn
      have Hn2 := Lib.hid hn2
      clear h h2 hla hlb hn hn2 gb
      go_enter Try.func12, Try.ntmps12
      go_wp2_with fail
      rw [← hW1]
      clear hW1
      refine (known_any _).mono ?_
      rintro e w1 ⟨rfl, hb1⟩
      obtain ⟨_, p0, p1, p2, p3⟩ := HK.out _ hb1
      go_wp2_with fail
      refine (HFa.out _).mono ?_
      rintro e w2 ⟨rfl, hb2⟩
      have hb12 := hb1.trans (hb2.mono hb1.size)
      obtain ⟨_, q0, q1, q2, q3⟩ := HK.out _ hb12
      clear p0 p1 p2 p3
      go_wp2_with fail
      refine (HFb.out _).mono ?_
      rintro e w3 ⟨rfl, hb3⟩
      have hb13 := hb12.trans (hb3.mono hb12.size)
      have hb0 := hb13.drew
      clear q0 q1 q2 q3 hb1 hb2 hb12 hb3 hb13
      go_wp2_with fail
      go_region_held3 (fun W => Below W1.heap.size W1 W ∧ W.cell? ⟨w.heap.size, 0, none⟩ = some (.bool a.all) ∧ W.cell? ⟨w.heap.size, 1, none⟩ = some (.slice A n c) ∧ W.cell? ⟨w.heap.size + 1, 0, none⟩ = some (.bool b.all) ∧ W.cell? ⟨w.heap.size + 1, 1, none⟩ = some (.slice A2 n2 c2))
        (first | exact HK.out _ (f4.alloc f4.size _) | exact HK.out _ f4 | exact HK.out _ f3 | exact HK.out _ f2 | exact HK.out _ f1 | exact HK.out _ hb0)
        (first
        | (go_at_call 47; (with_reducible refine (HMa.out _ hb0).mono ?_); rintro e v1 ⟨m1, l1, B1, d1, rfl, i1, e1⟩; have f1 := hb0.trans (e1.mono hb0.size))
        | (go_at_call 47; (with_reducible refine (HMb.out _ f1).mono ?_); rintro e v2 ⟨m2, l2, B2, d2, rfl, i2, e2⟩; have f2 := f1.trans (e2.mono f1.size); have i12 := i1.below e2)
        | (go_at_call 47; (with_reducible refine (HMa.out _ f2).mono ?_); rintro e v3 ⟨m3, l3, B3, d3, rfl, i3, e3⟩; have f3 := f2.trans (e3.mono f2.size); have i13 := i12.below e3; have i23 := i2.below e3)
        | (go_at_call 47; (with_reducible refine (HMa.out _ f3).mono ?_); rintro e v4 ⟨m4, l4, B4, d4, rfl, i4, e4⟩; have f4 := f3.trans (e4.mono f3.size); have i14 := i13.below e4; have i24 := i23.below e4; have i34 := i3.below e4))
      all_goals
        go_wp2_with fail
        have hg5 := heap_alloc_new v4 (Obj.cells #[Value.bool a.all, Value.slice A n c, Value.bool b.all, Value.slice A2 n2 c2, Value.bool m1.all, Value.slice B1 m1.l.length d1, Value.bool m2.all, Value.slice B2 m2.l.length d2, Value.bool m3.all, Value.slice B3 m3.l.length d3, Value.bool m4.all, Value.slice B4 m4.l.length d4] 67)
        have hb5 : Below v4.heap.size v4 (v4.alloc (Obj.cells #[Value.bool a.all, Value.slice A n c, Value.bool b.all, Value.slice A2 n2 c2, Value.bool m1.all, Value.slice B1 m1.l.length d1, Value.bool m2.all, Value.slice B2 m2.l.length d2, Value.bool m3.all, Value.slice B3 m3.l.length d3, Value.bool m4.all, Value.slice B4 m4.l.length d4] 67)) := (Below.refl _ _).alloc (Nat.le_refl _) _
        have hin5 := And.intro (Ha.out.below (f4.trans (hb5.mono f4.size))) (And.intro (Hb.out.below (f4.trans (hb5.mono f4.size))) (And.intro (i14.below hb5) (And.intro (i24.below hb5) (And.intro (i34.below hb5) (i4.below hb5)))))
        have hw5 := Hgb.out.trans ((f4.trans (hb5.mono f4.size)).mono (by omega))
        have hf4 := f4.size
        obtain ⟨W5, hW5⟩ : ∃ W, W = v4.alloc (Obj.cells #[Value.bool a.all, Value.slice A n c, Value.bool b.all, Value.slice A2 n2 c2, Value.bool m1.all, Value.slice B1 m1.l.length d1, Value.bool m2.all, Value.slice B2 m2.l.length d2, Value.bool m3.all, Value.slice B3 m3.l.length d3, Value.bool m4.all, Value.slice B4 m4.l.length d4] 67) := ⟨_, rfl⟩
        have hz5 : v4.heap.size < W5.heap.size := by rw [hW5]; simp
        rw [← hW5] at hg5 hin5 hw5 ⊢
        have HX : Hid (∀ k : Nat, k < 3 → ∃ (x y : St) (Ax Ay : Option Addr) (nx cx ny cy : Nat), In W5 x Ax nx ∧ In W5 y Ay ny ∧ nx ≤ 4096 ∧ ny ≤ 4096 ∧ x.l.length = nx ∧ y.l.length = ny ∧ W5.cell? ⟨v4.heap.size, k * 4, none⟩ = some (.bool x.all) ∧ W5.cell? ⟨v4.heap.size, k * 4 + 1, none⟩ = some (.slice Ax nx cx) ∧ W5.cell? ⟨v4.heap.size, k * 4 + 2, none⟩ = some (.bool y.all) ∧ W5.cell? ⟨v4.heap.size, k * 4 + 2 + 1, none⟩ = some (.slice Ay ny cy)) := by
          refine Lib.hid fun k hk => ?_
          obtain ⟨ja, jb, j1, j2, j3, j4⟩ := hin5
          match k, hk with
          | 0, _ => exact ⟨a, b, A, A2, n, c, n2, c2, ja, jb, by have := Hn.out; omega, by have := Hn2.out; omega, ja.len.symm, jb.len.symm, by rw [cell_of_row _ _ _ _ _ _ hg5]; rfl, by rw [cell_of_row _ _ _ _ _ _ hg5]; rfl, by rw [cell_of_row _ _ _ _ _ _ hg5]; rfl, by rw [cell_of_row _ _ _ _ _ _ hg5]; rfl⟩
          | 1, _ => exact ⟨m1, m2, B1, B2, _, d1, _, d2, j1, j2, by omega, by omega, rfl, rfl, by rw [cell_of_row _ _ _ _ _ _ hg5]; rfl, by rw [cell_of_row _ _ _ _ _ _ hg5]; rfl, by rw [cell_of_row _ _ _ _ _ _ hg5]; rfl, by rw [cell_of_row _ _ _ _ _ _ hg5]; rfl⟩
          | 2, _ => exact ⟨m3, m4, B3, B4, _, d3, _, d4, j3, j4, by omega, by omega, rfl, rfl, by rw [cell_of_row _ _ _ _ _ _ hg5]; rfl, by rw [cell_of_row _ _ _ _ _ _ hg5]; rfl, by rw [cell_of_row _ _ _ _ _ _ hg5]; rfl, by rw [cell_of_row _ _ _ _ _ _ hg5]; rfl⟩
        have Hw5 := Lib.hid hw5
        have hzw : w.heap.size ≤ W5.heap.size := hw5.size
        clear hW5 hg5 hin5 hw5 hb5 f1 f2 f3 f4 i1 i2 i3 i4 i12 i13 i14 i23 i24 i34 e1 e2 e3 e4 hb0 hf4
        go_loopw [8] (fun i wr => ∃ (k : Nat), k ≤ 3 ∧ i = .int .i64 k ∧ Below W5.heap.size W5 wr) (fun i _ => 3 - (intOf i).toNat)
        case atStart => exact ⟨0, by omega, rfl, Below.refl _ _⟩
        case round =>
          obtain ⟨k, hk, rfl, hbr⟩ := hrel
          by_cases hlt : k < 3
          · obtain ⟨x, y, Ax, Ay, nx, cx, ny, cy, hx, hy, hnx, hny, hlx, hly, z0, z1, z2, z3⟩ := HX.out k hlt
            have hk3 : (k : Int) < 3 := by omega
            have hk0 : (0 : Int) ≤ (k : Int) := by omega
            have HZ := Lib.hid (fun W (hb : Below W5.heap.size W5 W) => (⟨hb, (hb.cell (p := ⟨v4.heap.size, k * 4, none⟩) hz5).trans z0, (hb.cell (p := ⟨v4.heap.size, k * 4 + 1, none⟩) hz5).trans z1, (hb.cell (p := ⟨v4.heap.size, k * 4 + 2, none⟩) hz5).trans z2, (hb.cell (p := ⟨v4.heap.size, k * 4 + 2 + 1, none⟩) hz5).trans z3⟩ : Below W5.heap.size W5 W ∧ W.cell? ⟨v4.heap.size, k * 4, none⟩ = some (.bool x.all) ∧ W.cell? ⟨v4.heap.size, k * 4 + 1, none⟩ = some (.slice Ax nx cx) ∧ W.cell? ⟨v4.heap.size, k * 4 + 2, none⟩ = some (.bool y.all) ∧ W.cell? ⟨v4.heap.size, k * 4 + 2 + 1, none⟩ = some (.slice Ay ny cy)))
            have hbr0 := hbr.drew
            have hbs := hbr.size
            go_wp2_with fail
            go_region_held3 (fun W => Below W5.heap.size W5 W ∧ W.cell? ⟨v4.heap.size, k * 4, none⟩ = some (.bool x.all) ∧ W.cell? ⟨v4.heap.size, k * 4 + 1, none⟩ = some (.slice Ax nx cx) ∧ W.cell? ⟨v4.heap.size, k * 4 + 2, none⟩ = some (.bool y.all) ∧ W.cell? ⟨v4.heap.size, k * 4 + 2 + 1, none⟩ = some (.slice Ay ny cy))
              (first | exact HZ.out _ hbr0 | exact HZ.out _ ((hbr.alloc hbs _).drew) | exact HZ.out _ (((hbr.alloc hbs _).alloc (by simp; omega) _).drew)) (fail)
            · go_wp2_with fail
              clear HZ z0 z1 z2 z3 hbr0
              obtain ⟨W6, hW6, g6, g7, _, gb6⟩ := two wr (Obj.cells #[Value.bool x.all, Value.slice Ax nx cx] 65) (Obj.cells #[Value.bool y.all, Value.slice Ay ny cy] 65)
              rw [← hW6]
              clear hW6
              obtain ⟨V, hV⟩ : ∃ V, V = W6.drew := ⟨_, rfl⟩
              have gb7 : Below wr.heap.size wr V := by rw [hV]; exact gb6.drew
              have g8 : V.heap[wr.heap.size]? = some (Obj.cells #[Value.bool x.all, Value.slice Ax nx cx] 65) := by rw [hV]; exact g6
              have g9 : V.heap[wr.heap.size + 1]? = some (Obj.cells #[Value.bool y.all, Value.slice Ay ny cy] 65) := by rw [hV]; exact g7
              rw [← hV]
              clear hV g6 g7 gb6
              have HBV := Lib.hid (hbr.trans (gb7.mono hbs))
              obtain ⟨s1, s4, s7, d, e, f, HM⟩ := all_calls x y q Ax Ay nx cx ny cy hnx hny hlx hly
              have HE := Lib.hid (HM V (hx.below HBV.out) (hy.below HBV.out))
              clear HM
              have HK6 := Lib.hid (fun W (hb : Below V.heap.size V W) => have t0 := box2 (Below.box hb g8); have t1 := box2 (Below.box hb g9); (⟨hb, t0.1, t0.2.1, t1.1, t1.2.1⟩ : Below V.heap.size V W ∧ W.cell? ⟨wr.heap.size, 0, none⟩ = some (.bool x.all) ∧ W.cell? ⟨wr.heap.size, 1, none⟩ = some (.slice Ax nx cx) ∧ W.cell? ⟨wr.heap.size + 1, 0, none⟩ = some (.bool y.all) ∧ W.cell? ⟨wr.heap.size + 1, 1, none⟩ = some (.slice Ay ny cy)))
              have u0 : Below V.heap.size V V.drew := (Below.refl _ _).drew
              have hz7 : W5.heap.size ≤ V.heap.size := HBV.out.size
              clear g8 g9 gb7 hbr hbs hlx hly hnx hny hx hy
              go_wp2_with fail
              go_region_held3 (fun W => Below V.heap.size V W ∧ W.cell? ⟨wr.heap.size, 0, none⟩ = some (.bool x.all) ∧ W.cell? ⟨wr.heap.size, 1, none⟩ = some (.slice Ax nx cx) ∧ W.cell? ⟨wr.heap.size + 1, 0, none⟩ = some (.bool y.all) ∧ W.cell? ⟨wr.heap.size + 1, 1, none⟩ = some (.slice Ay ny cy))
                (first | exact HK6.out _ u15 | exact HK6.out _ u14 | exact HK6.out _ u13 | exact HK6.out _ u12 | exact HK6.out _ u11 | exact HK6.out _ u10 | exact HK6.out _ u9 | exact HK6.out _ u8 | exact HK6.out _ u7 | exact HK6.out _ u6 | exact HK6.out _ u5 | exact HK6.out _ u4 | exact HK6.out _ u3 | exact HK6.out _ u2 | exact HK6.out _ u1 | exact HK6.out _ u0)
                (first
                | (go_at_call 49; (with_reducible refine (HE.out.h1 _ u0).mono ?_); rintro e z1 ⟨E1, ee1, rfl, j1, u1⟩)
                | (go_at_call 50; (with_reducible refine (HE.out.h2 _ _ u1 j1).mono ?_); rintro e z2 ⟨E2, ee2, rfl, jj1, j2, u2⟩)
                | (go_at_call 48; (with_reducible refine (HE.out.h3 _ _ _ _ _ u2 jj1 j2).mono ?_); rintro e z3 ⟨rfl, u3⟩)
                | (go_at_call 51; (with_reducible refine (HE.out.h4 _ u3).mono ?_); rintro e z4 ⟨E4, ee4, rfl, j4, u4⟩)
                | (go_at_call 52; (with_reducible refine (HE.out.h5 _ _ u4 j4).mono ?_); rintro e z5 ⟨E5, ee5, rfl, jj4, j5, u5⟩)
                | (go_at_call 48; (with_reducible refine (HE.out.h6 _ _ _ _ _ u5 jj4 j5).mono ?_); rintro e z6 ⟨rfl, u6⟩)
                | (go_at_call 53; (with_reducible refine (HE.out.h7 _ u6).mono ?_); rintro e z7 ⟨E7, ee7, rfl, j7, u7⟩)
                | (go_at_call 54; (with_reducible refine (HE.out.h8 _ _ u7 j7).mono ?_); rintro e z8 ⟨E8, ee8, rfl, jj7, j8, u8⟩)
                | (go_at_call 48; (with_reducible refine (HE.out.h9 _ _ _ _ _ u8 jj7 j8).mono ?_); rintro e z9 ⟨rfl, u9⟩)
                | (go_at_call 55; (with_reducible refine (HE.out.h10 _ u9).mono ?_); rintro e z10 ⟨rfl, u10⟩)
                | (go_at_call 56; (with_reducible refine (HE.out.h11 _ u10).mono ?_); rintro e z11 ⟨rfl, u11⟩)
                | (go_at_call 57; (with_reducible refine (HE.out.h12 _ u11).mono ?_); rintro e z12 ⟨rfl, u12⟩)
                | (go_at_call 58; (with_reducible refine (HE.out.h13 _ u12).mono ?_); rintro e z13 ⟨rfl, u13⟩)
                | (go_at_call 59; (with_reducible refine (HE.out.h14 _ u13).mono ?_); rintro e z14 ⟨rfl, u14⟩)
                | (go_at_call 60; (with_reducible refine (HE.out.h15 _ u14).mono ?_); rintro e z15 ⟨rfl, u15⟩))
              all_goals
                go_wp2_with fail
                go_roundw
                case rel => exact ⟨k + 1, by omega, by go_num, HBV.out.trans (u15.mono hz7)⟩
                case measure => simp [intOf]; omega
            · go_wp2_with fail
              clear HZ z0 z1 z2 z3 hbr0
              obtain ⟨W6, hW6, g6, g7, _, gb6⟩ := two wr (Obj.cells #[Value.bool y.all, Value.slice Ay ny cy] 65) (Obj.cells #[Value.bool x.all, Value.slice Ax nx cx] 65)
              rw [← hW6]
              clear hW6
              obtain ⟨V, hV⟩ : ∃ V, V = W6.drew := ⟨_, rfl⟩
              have gb7 : Below wr.heap.size wr V := by rw [hV]; exact gb6.drew
              have g8 : V.heap[wr.heap.size]? = some (Obj.cells #[Value.bool y.all, Value.slice Ay ny cy] 65) := by rw [hV]; exact g6
              have g9 : V.heap[wr.heap.size + 1]? = some (Obj.cells #[Value.bool x.all, Value.slice Ax nx cx] 65) := by rw [hV]; exact g7
              rw [← hV]
              clear hV g6 g7 gb6
              have HBV := Lib.hid (hbr.trans (gb7.mono hbs))
              obtain ⟨s1, s4, s7, d, e, f, HM⟩ := all_calls x y q Ax Ay nx cx ny cy hnx hny hlx hly
              have HE := Lib.hid (HM V (hx.below HBV.out) (hy.below HBV.out))
              clear HM
              have HK6 := Lib.hid (fun W (hb : Below V.heap.size V W) => have t0 := box2 (Below.box hb g9); have t1 := box2 (Below.box hb g8); (⟨hb, t0.1, t0.2.1, t1.1, t1.2.1⟩ : Below V.heap.size V W ∧ W.cell? ⟨wr.heap.size + 1, 0, none⟩ = some (.bool x.all) ∧ W.cell? ⟨wr.heap.size + 1, 1, none⟩ = some (.slice Ax nx cx) ∧ W.cell? ⟨wr.heap.size, 0, none⟩ = some (.bool y.all) ∧ W.cell? ⟨wr.heap.size, 1, none⟩ = some (.slice Ay ny cy)))
              have u0 : Below V.heap.size V V.drew := (Below.refl _ _).drew
              have hz7 : W5.heap.size ≤ V.heap.size := HBV.out.size
              clear g8 g9 gb7 hbr hbs hlx hly hnx hny hx hy
              go_wp2_with fail
              go_region_held3 (fun W => Below V.heap.size V W ∧ W.cell? ⟨wr.heap.size + 1, 0, none⟩ = some (.bool x.all) ∧ W.cell? ⟨wr.heap.size + 1, 1, none⟩ = some (.slice Ax nx cx) ∧ W.cell? ⟨wr.heap.size, 0, none⟩ = some (.bool y.all) ∧ W.cell? ⟨wr.heap.size, 1, none⟩ = some (.slice Ay ny cy))
                (first | exact HK6.out _ u15 | exact HK6.out _ u14 | exact HK6.out _ u13 | exact HK6.out _ u12 | exact HK6.out _ u11 | exact HK6.out _ u10 | exact HK6.out _ u9 | exact HK6.out _ u8 | exact HK6.out _ u7 | exact HK6.out _ u6 | exact HK6.out _ u5 | exact HK6.out _ u4 | exact HK6.out _ u3 | exact HK6.out _ u2 | exact HK6.out _ u1 | exact HK6.out _ u0)
                (first
                | (go_at_call 49; (with_reducible refine (HE.out.h1 _ u0).mono ?_); rintro e z1 ⟨E1, ee1, rfl, j1, u1⟩)
                | (go_at_call 50; (with_reducible refine (HE.out.h2 _ _ u1 j1).mono ?_); rintro e z2 ⟨E2, ee2, rfl, jj1, j2, u2⟩)
                | (go_at_call 48; (with_reducible refine (HE.out.h3 _ _ _ _ _ u2 jj1 j2).mono ?_); rintro e z3 ⟨rfl, u3⟩)
                | (go_at_call 51; (with_reducible refine (HE.out.h4 _ u3).mono ?_); rintro e z4 ⟨E4, ee4, rfl, j4, u4⟩)
                | (go_at_call 52; (with_reducible refine (HE.out.h5 _ _ u4 j4).mono ?_); rintro e z5 ⟨E5, ee5, rfl, jj4, j5, u5⟩)
                | (go_at_call 48; (with_reducible refine (HE.out.h6 _ _ _ _ _ u5 jj4 j5).mono ?_); rintro e z6 ⟨rfl, u6⟩)
                | (go_at_call 53; (with_reducible refine (HE.out.h7 _ u6).mono ?_); rintro e z7 ⟨E7, ee7, rfl, j7, u7⟩)
                | (go_at_call 54; (with_reducible refine (HE.out.h8 _ _ u7 j7).mono ?_); rintro e z8 ⟨E8, ee8, rfl, jj7, j8, u8⟩)
                | (go_at_call 48; (with_reducible refine (HE.out.h9 _ _ _ _ _ u8 jj7 j8).mono ?_); rintro e z9 ⟨rfl, u9⟩)
                | (go_at_call 55; (with_reducible refine (HE.out.h10 _ u9).mono ?_); rintro e z10 ⟨rfl, u10⟩)
                | (go_at_call 56; (with_reducible refine (HE.out.h11 _ u10).mono ?_); rintro e z11 ⟨rfl, u11⟩)
                | (go_at_call 57; (with_reducible refine (HE.out.h12 _ u11).mono ?_); rintro e z12 ⟨rfl, u12⟩)
                | (go_at_call 58; (with_reducible refine (HE.out.h13 _ u12).mono ?_); rintro e z13 ⟨rfl, u13⟩)
                | (go_at_call 59; (with_reducible refine (HE.out.h14 _ u13).mono ?_); rintro e z14 ⟨rfl, u14⟩)
                | (go_at_call 60; (with_reducible refine (HE.out.h15 _ u14).mono ?_); rintro e z15 ⟨rfl, u15⟩))
              all_goals
                go_wp2_with fail
                go_roundw
                case rel => exact ⟨k + 1, by omega, by go_num, HBV.out.trans (u15.mono hz7)⟩
                case measure => simp [intOf]; omega
          · obtain rfl : k = 3 := by omega
            go_wp2_with fail
            go_ret
            exact ⟨rfl, Hw5.out.trans (hbr.mono hzw)⟩
    · rw [decide_eq_false hn2] at HFb
      go_enter Try.func12, Try.ntmps12
      go_wp2_with fail
      rw [← hW1]
      refine (known_any _).mono ?_
      rintro e w1 ⟨rfl, hb1⟩
      obtain ⟨p0, p1, _, _⟩ := box2 (Below.box hb1 g0)
      obtain ⟨p2, p3, _, _⟩ := box2 (Below.box hb1 g1)
      go_wp2_with fail
      refine (HFa.out _).mono ?_
      rintro e w2 ⟨rfl, hb2⟩
      obtain ⟨q0, q1, _, _⟩ := box2 (Below.box hb2 (Below.box hb1 g0))
      obtain ⟨q2, q3, _, _⟩ := box2 (Below.box hb2 (Below.box hb1 g1))
      go_wp2_with fail
      refine (HFb.out _).mono ?_
      rintro e w3 ⟨rfl, hb3⟩
      go_wp2_with fail
      go_ret
      exact ⟨rfl, gb.trans (((hb1.trans (hb2.mono hb1.size)).trans (hb3.mono (Nat.le_trans hb1.size hb2.size))).mono (by omega))⟩
  · rw [decide_eq_false hn] at HFa
    go_enter Try.func12, Try.ntmps12
    go_wp2_with fail
    rw [← hW1]
    refine (known_any _).mono ?_
    rintro e w1 ⟨rfl, hb1⟩
    obtain ⟨p0, p1, _, _⟩ := box2 (Below.box hb1 g0)
    obtain ⟨p2, p3, _, _⟩ := box2 (Below.box hb1 g1)
    go_wp2_with fail
    refine (HFa.out _).mono ?_
    rintro e w2 ⟨rfl, hb2⟩
    go_wp2_with fail
    go_ret
    exact ⟨rfl, gb.trans ((hb1.trans (hb2.mono hb1.size)).mono (by omega))⟩
end Go.Proofs.Ytnjabeeogmldlaa.Nm
