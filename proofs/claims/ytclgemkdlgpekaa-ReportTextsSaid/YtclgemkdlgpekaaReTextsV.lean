/- ReportTexts: the walk. No conditions. -/
import Derived.Test.YtclgemkdlgpekaaReTextsW
namespace Go.Proofs.Ytclgemkdlgpekaa.Re
open Go.RowKit
set_option maxRecDepth 100000

set_option maxHeartbeats 4000000 in
theorem texts_walk (l : List Cf) (ns : List Int) (A A2 : Option Addr) (n c n2 c2 : Nat) (w : World) (h : PRow w w.heap.size A n l) (h2 : SeesV w w.heap.size A2 n2 (ns.map (Value.int .i64))) (hc2 : n2 ≤ c2) (hm2 : c2 ≤ maxLen) :
    Calls Try.prog 5 #[.slice A n c, .slice A2 n2 c2] w fun e w' => e = .returned (.bool true) ∧ Below w.heap.size w w' := by
  have HK := Lib.hid (known_any w)
  have Hs := Lib.hid h
  have Hs2 := Lib.hid h2
  have hm : n2 ≤ 9223372036854775807 := by simp only [maxLen] at hm2; omega
  clear h h2 hc2 hm2
  go_enter Try.func5, Try.ntmps5
  go_wp2_with fail
  (with_reducible refine HK.out.mono ?_)
  rintro e w1 ⟨rfl, hb1⟩
  have HB1 := Lib.hid hb1
  clear hb1
  by_cases hn : n ≤ 10
  · have hn1 : ¬ ((10 : Int) < (n : Int)) := by omega
    have HI0 := Lib.hid (show TxI w w1 none 0 0 l 0 [] from ⟨World.ownsRow_nil _ _ _ _, HB1.out, rfl, fun x hx => (by cases hx)⟩)
    go_wp2_with fail
    generalize (decide ((10 : Int) < (n : Int))) = bz
    go_loopw [5, 6] (fun o i wr => ∃ (k : Nat) (Ao : Option Addr) (N co : Nat) (L : List Cf), k ≤ n ∧ i = .int .i64 k ∧ o = .slice Ao N co ∧ Hid (TxI w wr Ao N co l k L)) (fun _ i _ => n - (intOf i).toNat)
    case atStart => exact ⟨0, none, 0, 0, [], Nat.zero_le _, rfl, rfl, HI0⟩
    case round =>
      obtain ⟨k, Ao, N, co, L, hk, rfl, rfl, HI⟩ := hrel
      have hNk : N = k := by
        have := HI.out.own.1
        rw [cfCells_len, HI.out.len] at this
        omega
      subst hNk
      by_cases hlt : N < n
      · have q0 : (N : Int) < (n : Int) := by omega
        have q1 : (0 : Int) ≤ (N : Int) := by omega
        have hr := Hs.out.below HI.out.below
        obtain ⟨x, hx⟩ : ∃ x, l[N]? = some x := ⟨_, List.getElem?_eq_getElem (by have := Hs.out.len; omega)⟩
        obtain ⟨b, o, hA, hbl, hc1⟩ := hr.cell N x hx
        obtain ⟨hsx, hxc, hxm⟩ := hr.path x (List.mem_of_getElem? hx)
        have hsx0 := Hs.out.path x (List.mem_of_getElem? hx)
        have HF := Lib.hid (few_any x.p x.A x.n x.c w.heap.size wr hsx (by omega))
        have Hsx0 := Lib.hid hsx0.1
        subst hA
        clear hr hx hsx hsx0 hxc hxm
        go_wp2_with fail
        (with_reducible refine HF.out.mono ?_)
        rintro e w2 ⟨⟨v, rfl, hv⟩, rfl⟩
        cases v with
        | false =>
          clear hv
          go_wp2_with fail
          go_ret
          exact ⟨rfl, HI.out.below⟩
        | true =>
          obtain ⟨hv1, hv2⟩ := hv rfl
          have HBK := Lib.hid (bulk_few hv1 hv2)
          clear hv hv1 hv2
          have HX := Lib.hid (fun (kd : Int) (A3 : Option Addr) (c3 : Nat) (w3 : World) (ho3 : w3.ownsRow w.heap.size 39 2 (.slice A3 (N + 1) c3) (N + 1) (cfCells L ++ cfCells [⟨x.A, x.n, x.c, x.p, kd⟩])) (hb3 : Below w.heap.size w w3) => (⟨by rw [cfCells_app]; exact ho3, hb3, by rw [List.length_append, HI.out.len]; rfl, fun y hy => by
            rcases List.mem_append.1 hy with hy | hy
            · exact HI.out.path y hy
            · simp only [List.mem_cons, List.not_mem_nil, or_false] at hy
              subst hy
              exact ⟨Hsx0.out, HBK.out⟩⟩ : TxI w w3 A3 (N + 1) c3 l (N + 1) (L ++ [⟨x.A, x.n, x.c, x.p, kd⟩])))
          have HBX := Lib.hid (fun (kd : Int) (w3 : World) (hg : ((w2.alloc (.cells #[.slice x.A x.n x.c, .int .i64 kd] 39)).alloc (.cells #[.slice x.A x.n x.c, .int .i64 kd] 39)).grownBy w3 (Value.slice Ao N co).ownBlock) => ((HI.out.below.alloc HI.out.below.size _).alloc (HI.out.below.alloc HI.out.below.size _).size _).grown hg ((HI.out.below.alloc HI.out.below.size _).alloc (HI.out.below.alloc HI.out.below.size _).size _).size (fun q hq => (HI.out.own.lt q hq).1))
          have hNn : N + 1 ≤ 1099511627776 := by omega
          by_cases hk2 : N < n2
          · have q2 : (N : Int) < (n2 : Int) := by omega
            obtain ⟨b2, o2, rfl, hb2l, hc2⟩ := (Hs2.out.below HI.out.below).int hk2
            obtain ⟨kd, hkd⟩ : ∃ kd, kd = ns.getD N 0 := ⟨_, rfl⟩
            rw [← hkd] at hc2
            have hb2w : b2 < w2.heap.size := by have := HI.out.below.size; omega
            have hsr : Src Try.prog 2 37 (.slice (some ⟨w2.heap.size + 1, 0, none⟩) 1 1) 1 (cfCells [⟨x.A, x.n, x.c, x.p, kd⟩]) ((w2.alloc (.cells #[.slice x.A x.n x.c, .int .i64 kd] 39)).alloc (.cells #[.slice x.A x.n x.c, .int .i64 kd] 39)) := by
              have h := heap_alloc_new (w2.alloc (.cells #[.slice x.A x.n x.c, .int .i64 kd] 39)) (.cells #[.slice x.A x.n x.c, .int .i64 kd] 39)
              rw [World.size_alloc] at h
              exact src_cf (x := ⟨x.A, x.n, x.c, x.p, kd⟩) h
            have hsz : w.heap.size ≤ ((w2.alloc (.cells #[.slice x.A x.n x.c, .int .i64 kd] 39)).alloc (.cells #[.slice x.A x.n x.c, .int .i64 kd] 39)).heap.size := by have := HI.out.below.size; simp; omega
            have ho2 := (HI.out.own.alloc (.cells #[.slice x.A x.n x.c, .int .i64 kd] 39)).alloc (.cells #[.slice x.A x.n x.c, .int .i64 kd] 39)
            clear hkd
            go_wp2_with (at_builtin; refine wpList_append_row rfl (.tmp 45) (.tmp 47) _ _ rfl elem_cf rfl rfl ho2 hsr hNn hsz ?_; intro A3 c3 w3 ho3 hg3 hat3)
            have HI3 := Lib.hid (HX.out kd A3 c3 w3 ho3 (HBX.out kd w3 hg3))
            go_roundw
            case rel => exact ⟨N + 1, A3, N + 1, c3, _, by omega, by go_num, rfl, HI3⟩
            case measure => simp [intOf]; omega
          · have q2 : ¬ ((N : Int) < (n2 : Int)) := by omega
            obtain ⟨kd, hkd⟩ : ∃ kd, kd = 1 + (N : Int) % 2 := ⟨_, rfl⟩
            have hsr : Src Try.prog 2 37 (.slice (some ⟨w2.heap.size + 1, 0, none⟩) 1 1) 1 (cfCells [⟨x.A, x.n, x.c, x.p, kd⟩]) ((w2.alloc (.cells #[.slice x.A x.n x.c, .int .i64 kd] 39)).alloc (.cells #[.slice x.A x.n x.c, .int .i64 kd] 39)) := by
              have h := heap_alloc_new (w2.alloc (.cells #[.slice x.A x.n x.c, .int .i64 kd] 39)) (.cells #[.slice x.A x.n x.c, .int .i64 kd] 39)
              rw [World.size_alloc] at h
              exact src_cf (x := ⟨x.A, x.n, x.c, x.p, kd⟩) h
            have hsz : w.heap.size ≤ ((w2.alloc (.cells #[.slice x.A x.n x.c, .int .i64 kd] 39)).alloc (.cells #[.slice x.A x.n x.c, .int .i64 kd] 39)).heap.size := by have := HI.out.below.size; simp; omega
            have ho2 := (HI.out.own.alloc (.cells #[.slice x.A x.n x.c, .int .i64 kd] 39)).alloc (.cells #[.slice x.A x.n x.c, .int .i64 kd] 39)
            subst hkd
            go_wp2_with (at_builtin; refine wpList_append_row rfl (.tmp 45) (.tmp 47) _ _ rfl elem_cf rfl rfl ho2 hsr hNn hsz ?_; intro A3 c3 w3 ho3 hg3 hat3)
            have HI3 := Lib.hid (HX.out _ A3 c3 w3 ho3 (HBX.out _ w3 hg3))
            go_roundw
            case rel => exact ⟨N + 1, A3, N + 1, c3, _, by omega, by go_num, rfl, HI3⟩
            case measure => simp [intOf]; omega
      · have hkn : (n : Int) ≤ (N : Int) := by omega
        have hNn : N ≤ 1000 := by omega
        have HT := Lib.hid (text_cf L Ao N co wr HI.out.row hNn)
        have HR := Lib.hid (fun (W : World) (hW : Below wr.heap.size wr W) => rtext_cf L Ao N co wr.heap.size W (HI.out.row.below hW) hNn)
        obtain ⟨X, hX⟩ : ∃ X : ByteArray, X = mkB (linesT L) := ⟨_, rfl⟩
        rw [← hX] at HT HR
        have hXs : X.size ≤ 50000000 := by
          have h1 := linesT_len (l := L) (fun x hx => Nat.le_trans (HI.out.path x hx).2 (by decide))
          rw [hX, size_mk]
          rw [HI.out.len] at h1
          omega
        have hXc : X.data.toList.count 10 = N := by rw [hX]; show (linesT L).count 10 = N; rw [lines_count, HI.out.len]
        have HXc := Lib.hid hXc
        have hXX : (X.toList == X.toList) = true := beq_self_eq_true _
        clear hX hXc hlt
        go_wp2_with fail
        (with_reducible refine HT.out.mono ?_)
        rintro e w4 ⟨rfl, hb4⟩
        have HB4 := Lib.hid hb4
        clear hb4
        go_wp2_with fail
        go_loopw [9, 10] (fun m i wx => ∃ j : Nat, j ≤ X.size ∧ i = .int .i64 j ∧ m = .int .i64 ((X.data.toList.take j).count 10 : Nat) ∧ Hid (wx = w4)) (fun _ i _ => X.size - (intOf i).toNat)
        case atStart => exact ⟨0, Nat.zero_le _, rfl, by simp, Lib.hid rfl⟩
        case round =>
          obtain ⟨j, hj, rfl, rfl, HW⟩ := hrel
          obtain ⟨m, hm⟩ : ∃ m, m = (X.data.toList.take j).count 10 := ⟨_, rfl⟩
          rw [← hm]
          have hmj : m ≤ X.size := by
            rw [hm]
            have h1 := List.count_le_length (a := (10 : UInt8)) (l := X.data.toList.take j)
            rw [List.length_take] at h1
            omega
          have HM := Lib.hid hm
          clear hm
          by_cases hjl : j < X.size
          · have r0 : (j : Int) < (X.size : Int) := by omega
            have hst := take_snoc_ X j hjl
            have HST := Lib.hid hst
            clear hst
            by_cases h10 : X[j] = 10
            · have b10 : ((X[j].toNat : Int) == 10) = true := by rw [h10]; rfl
              have HN : Hid ((X.data.toList.take (j + 1)).count 10 = m + 1) := Lib.hid (by rw [HST.out, List.count_append, ← HM.out, h10]; rfl)
              clear h10
              go_wp2_with fail
              go_roundw
              case rel => exact ⟨j + 1, by omega, by go_num, by rw [HN.out]; go_num, HW⟩
              case measure => simp [intOf]; omega
            · have hu := X[j].toNat_lt
              have b10 : ((X[j].toNat : Int) == 10) = false := by
                rw [beq_eq_false_iff_ne]
                exact fun e => h10 (UInt8.toNat_inj.1 (by show X[j].toNat = 10; omega))
              have HN : Hid ((X.data.toList.take (j + 1)).count 10 = m) := Lib.hid (by rw [HST.out, List.count_append, ← HM.out, List.count_cons_of_ne h10]; rfl)
              clear h10
              go_wp2_with fail
              go_roundw
              case rel => exact ⟨j + 1, by omega, by go_num, by rw [HN.out], HW⟩
              case measure => simp [intOf]; omega
          · obtain rfl : j = X.size := by omega
            have HN : Hid (m = N) := Lib.hid (by
              have h1 := HXc.out
              have h2 := HM.out
              rw [List.take_of_length_le (by rw [Array.length_toList]; exact Nat.le_refl _)] at h2
              omega)
            obtain rfl := HN.out
            obtain rfl := HW.out
            have hmm : ((m : Int) == (m : Int)) = true := beq_self_eq_true _
            clear HM HXc hjl
            go_wp2_with fail
            (with_reducible refine (HR.out _ HB4.out).mono ?_)
            rintro e w5 ⟨rfl, q, rfl⟩
            go_wp2_with fail
            go_ret
            exact ⟨rfl, below_drewN (HI.out.below.trans (HB4.out.mono HI.out.below.size)) q⟩
  · have hn1 : (10 : Int) < (n : Int) := by omega
    clear hn
    go_wp2_with fail
    go_ret
    exact ⟨rfl, HB1.out⟩
end Go.Proofs.Ytclgemkdlgpekaa.Re
