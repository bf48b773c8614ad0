/- VfRoom, walked. No conditions. -/
import Derived.Test.YtaokoejedpbejaaVfLem
import Derived.BigQuiet
namespace Go.Proofs.Ytaokoejedpbejaa.Vf
open Go.RowKit
set_option maxRecDepth 100000

/-- The sum of the four without the q-th, of the first j. -/
def sx (s : Nat → Nat) (q : Nat) : Nat → Nat
  | 0 => 0
  | j + 1 => sx s q j + if j = q then 0 else s j
def nmR (q : Nat) : ByteArray := ⟨#[(97 + q).toUInt8]⟩
theorem sx_all (s : Nat → Nat) {q : Nat} (hq : q < 4) : sx s q 4 + s q = s 0 + s 1 + s 2 + s 3 := by
  have h : q = 0 ∨ q = 1 ∨ q = 2 ∨ q = 3 := by omega
  rcases h with rfl | rfl | rfl | rfl <;> simp [sx] <;> omega
theorem sx_le (s : Nat → Nat) (q : Nat) (hs : ∀ j, s j ≤ 300) : ∀ j, sx s q j ≤ 300 * j
  | 0 => Nat.le_refl _
  | j + 1 => by
    have := sx_le s q hs j
    have := hs j
    unfold sx
    split <;> omega
def up (s : Nat → Nat) (q m : Nat) : Nat → Nat := fun j => if j = q then m else s j
theorem up_sum (s : Nat → Nat) {q : Nat} (hq : q < 4) (m : Nat) : up s q m 0 + up s q m 1 + up s q m 2 + up s q m 3 = sx s q 4 + m := by
  have h : q = 0 ∨ q = 1 ∨ q = 2 ∨ q = 3 := by omega
  rcases h with rfl | rfl | rfl | rfl <;> simp [sx, up] <;> omega
def bx4 (s : Nat → Nat) : List Value := [.int .i64 (s 0 : Int), .int .i64 (s 1 : Int), .int .i64 (s 2 : Int), .int .i64 (s 3 : Int)]
theorem bx4_up (s : Nat → Nat) {q : Nat} (hq : q < 4) (m : Nat) : (bx4 s).set q (.int .i64 (m : Int)) = bx4 (up s q m) := by
  have h : q = 0 ∨ q = 1 ∨ q = 2 ∨ q = 3 := by omega
  rcases h with rfl | rfl | rfl | rfl <;> simp [bx4, up]
theorem bx4_get (s : Nat → Nat) {j : Nat} (hj : j < 4) : (bx4 s)[j]? = some (.int .i64 (s j : Int)) := by
  have h : j = 0 ∨ j = 1 ∨ j = 2 ∨ j = 3 := by omega
  rcases h with rfl | rfl | rfl | rfl <;> rfl
theorem nmR_ne {q j : Nat} (hq : q < 4) (hj : j < 4) (h : j ≠ q) : (nmR j).data.toList ≠ (nmR q).data.toList := by
  have h1 : q = 0 ∨ q = 1 ∨ q = 2 ∨ q = 3 := by omega
  have h2 : j = 0 ∨ j = 1 ∨ j = 2 ∨ j = 3 := by omega
  rcases h1 with rfl | rfl | rfl | rfl <;> rcases h2 with rfl | rfl | rfl | rfl <;> first | exact absurd rfl h | decide
theorem asc_now {V : Vm} {N : Nat} (h : Lim V N) : Asc V.now := h.ascNow

structure RI (V : Vm) (R : Nat) (s : Nat → Nat) : Prop where
  dead : V.dead = false
  stop : V.stop = 0
  room : V.room = (R : Int)
  used : used V.now = s 0 + s 1 + s 2 + s 3
  each : ∀ j, j < 4 → olen (fnd V.now (nmR j).data.toList) = s j
  le : ∀ j, s j ≤ 300
theorem RI.size {V : Vm} {R N : Nat} {s : Nat → Nat} (h : RI V R s) (hl : Lim V N) {q : Nat} (hq : q < 4) (m : Nat) :
    Vf.used (wth (nmR q).data.toList (some (List.replicate m 0)) V.now) = sx s q 4 + m := by
  have h1 := used_wth (nmR q).data.toList (some (List.replicate m 0)) (asc_now hl)
  rw [h.each q hq, h.used] at h1
  have h2 := sx_all s hq
  simp only [olen, List.length_replicate] at h1
  omega
theorem RI.full {V : Vm} {R N : Nat} {s : Nat → Nat} (h : RI V R s) (hl : Lim V N) {q m : Nat} (hq : q < 4) (hf : R < sx s q 4 + m) :
    V.write (nmR q).data.toList (List.replicate m 0) = (14, V) := by
  unfold Vm.write
  rw [if_neg (by rw [h.dead]; simp), if_neg (by simp [nmR]), if_pos (by rw [h.size hl hq, h.room]; omega)]
theorem RI.more {V : Vm} {R N : Nat} {s : Nat → Nat} (h : RI V R s) (hl : Lim V N) {q m : Nat} (hq : q < 4) (hm : m < 150) (hf : ¬ R < sx s q 4 + m) :
    V.write (nmR q).data.toList (List.replicate m 0) = (0, V.does (nmR q).data.toList (some (List.replicate m 0))) ∧ RI (V.does (nmR q).data.toList (some (List.replicate m 0))) R (up s q m) := by
  obtain ⟨d1, d2, d3, d4⟩ := does_dead h.dead h.stop (nmR q).data.toList (some (List.replicate m 0))
  refine ⟨?_, d1, d2, by rw [d4, h.room], ?_, fun j hj => ?_, fun j => ?_⟩
  · unfold Vm.write
    rw [if_neg (by rw [h.dead]; simp), if_neg (by simp [nmR]), if_neg (by rw [h.size hl hq, h.room]; omega), d3]
  · rw [does_now, h.size hl hq, up_sum s hq]
  · rw [does_now, fnd_wth _ _ _ (asc_now hl)]
    by_cases e : j = q
    · subst e
      rw [if_pos rfl]
      simp [up, olen]
    · rw [if_neg (nmR_ne hq hj e), h.each j hj]
      simp [up, e]
  · have := h.le j
    unfold up
    split <;> omega
theorem RI.new (R : Nat) (hR : R < 300) : RI (Vm.new R) R fun _ => 0 :=
  ⟨rfl, rfl, by simp only [Vm.new]; omega, rfl, fun j hj => rfl, fun j => Nat.zero_le _⟩

theorem sum4 {a b c d : Nat} (ha : a ≤ 300) (hb : b ≤ 300) (hc : c ≤ 300) (hd : d ≤ 300) : ∃ x y z : Nat, wrap64 ((a : Int) + (b : Int)) = (x : Int) ∧ wrap64 ((x : Int) + (c : Int)) = (y : Int) ∧ wrap64 ((y : Int) + (d : Int)) = (z : Int) ∧ a + b + c + d = z :=
  ⟨a + b, a + b + c, a + b + c + d, by unfold wrap64; omega, by unfold wrap64; omega, by unfold wrap64; omega, rfl⟩
theorem new_room (n r : Int) (hr : min (max n 0) 1048576 = r) (W : World) : Calls Try.prog 13 #[.int .i64 n] W fun e w' => e = .returned (.pointer (some ⟨W.heap.size, 0, none⟩)) ∧ Below W.heap.size W w' ∧ Calls Try.prog 26 #[.pointer (some ⟨W.heap.size, 0, none⟩)] w' fun e w'' => e = .returned (.int .i64 r) ∧ w' = w'' := by
  refine (new_any n W).mono fun e w' h => ⟨h.1, h.2.2.1, ?_⟩
  have h0 := room_any (Vp.fresh (B := w'.heap.size) h.2.1 h.2.1.lt (Nat.le_refl _))
  rw [show (Vm.new n).room = r from hr] at h0
  exact h0
theorem blw2 (W : World) (X Y : Obj) : Below W.heap.size W ((W.alloc X).alloc Y).drew := by
  have h := ((Below.refl W.heap.size W).alloc (Nat.le_refl _) X).alloc (by rw [show (W.alloc X).heap.size = W.heap.size + 1 from Array.size_push ..]; omega) Y
  exact ⟨h.os, h.tape, h.output, h.size, h.block⟩
theorem zat1 (W : World) (X Y : Obj) : ((W.alloc X).alloc Y).drew.heap[W.heap.size + 1]? = some Y := by
  have h := heap_alloc_new (W.alloc X) Y
  rw [show (W.alloc X).heap.size = W.heap.size + 1 from Array.size_push ..] at h
  exact h
theorem zat2 (W : World) (X Y : Obj) : ((W.alloc Y).alloc X).drew.heap[W.heap.size]? = some Y := by
  have h1 := heap_alloc_new W Y
  have h2 := ((Below.refl (W.heap.size + 1) (W.alloc Y)).alloc (by rw [show (W.alloc Y).heap.size = W.heap.size + 1 from Array.size_push ..]; exact Nat.le_refl _) X).block W.heap.size (Nat.lt_succ_self _)
  exact h2.trans h1
theorem sees_at {W : World} {g : Nat} {l : BS} (h : W.heap[g]? = some (Obj.cells (byts l).toArray 5)) {n : Nat} (hn : n = l.length) : Sees W W.heap.size (some ⟨g, 0, none⟩) n l :=
  ⟨hn, fun j u hu => ⟨⟨g, 0, none⟩, rfl, (Array.getElem?_eq_some_iff.1 h).1, by
    rw [Addr.add_lit, cell_of_row _ _ _ _ _ _ h]
    simp [byts, hu]⟩⟩

set_option maxHeartbeats 8000000 in
theorem vfsRoom_walk (a : Int) (A : Option Addr) (n c : Nat) (l : List Int) (w : World) (hS : SeesV w w.heap.size A n (l.map (Value.int .i64))) (hr : ∀ x ∈ l, -9223372036854775808 ≤ x ∧ x ≤ 9223372036854775807) (ha : -9223372036854775808 ≤ a ∧ a ≤ 9223372036854775807) :
    Calls Try.prog 6 #[.int .i64 a, .slice A n c] w fun e w' => e = .returned (.bool true) ∧ Below w.heap.size w w' := by
  obtain ⟨R, hR, hwr⟩ : ∃ R : Nat, R < 300 ∧ ∀ w : World, Calls Try.prog 12 #[.int .i64 a, .int .i64 300] w fun e w' => e = .returned (.int .i64 (R : Int)) ∧ w = w' := by
    obtain ⟨k, h1, _, h2⟩ := within_nat a 300 (by decide) (by decide) ha.1 ha.2
    exact ⟨k, h1, h2⟩
  have HS := Lib.hid hS
  have HR := Lib.hid hr
  have HRR := Lib.hid hR
  have HWR := Lib.hid hwr
  clear hS hr ha hR hwr
  go_enter Try.func6, Try.ntmps6
  go_upto_region 6 with (first
    | (go_at_call 10; (with_reducible refine (known_any _).mono ?_); rintro e W1 ⟨rfl, hb1⟩; have HB1 := Lib.hid hb1; clear hb1)
    | (go_at_call 12; (with_reducible refine (HWR.out _).mono ?_); rintro e W ⟨rfl, rfl⟩)
    | (go_at_call 13; (with_reducible refine (new_any _ W1).mono ?_); rintro e W2 ⟨rfl, hbx2, hb2, hz2⟩; have HBX2 := Lib.hid hbx2; have HB2 := Lib.hid hb2; have HZ2 := Lib.hid hz2; clear hbx2 hb2 hz2))
  obtain ⟨W3, hW3⟩ : ∃ W, W = W2.alloc (Obj.cells #[Value.int IntKind.i64 0, Value.int IntKind.i64 0, Value.int IntKind.i64 0, Value.int IntKind.i64 0] 51) := ⟨_, rfl⟩
  rw [← hW3]
  have hb3 : Below W2.heap.size W2 W3 := by rw [hW3]; exact (Below.refl _ _).alloc (Nat.le_refl _) _
  have hz3 : W3.heap.size = W2.heap.size + 1 := by rw [hW3]; exact Array.size_push ..
  have hg3 : Bx W3 W2.heap.size (bx4 fun _ => 0) 51 := by rw [hW3]; exact Bx.new W2 _ _
  have hv3 := Vp.fresh (B := W3.heap.size) (HBX2.out.below hb3 HBX2.out.lt) (by have := HBX2.out.lt; omega) (Nat.le_refl _)
  have hbw3 : Below w.heap.size w W3 := (HB1.out.trans (HB2.out.mono HB1.out.size)).trans (hb3.mono (Nat.le_trans HB1.out.size HB2.out.size))
  have HV3 := Lib.hid hv3
  have HG3 := Lib.hid hg3
  have HZ3 := Lib.hid hz3
  have HBW3 := Lib.hid hbw3
  clear hb3 hz3 hg3 hv3 hbw3 hW3
  go_wp2_with fail
  go_loopw [7] (fun kv wr => ∃ (k : Nat) (s : Nat → Nat) (V : Vm), k ≤ 30 ∧ k ≤ n ∧ kv = .int .i64 (k : Int) ∧ Vp wr W3.heap.size W1.heap.size V ∧ Lim V (k * 200) ∧ RI V R s ∧ Bx wr W2.heap.size (bx4 s) 51 ∧ Below w.heap.size w wr) (fun kv _ => 30 - (intOf kv).toNat)
  case atStart => exact ⟨0, fun _ => 0, Vm.new R, by omega, Nat.zero_le _, rfl, HV3.out, Lim.new R, RI.new R HRR.out, HG3.out, HBW3.out⟩
  case round =>
    obtain ⟨k, s, V, hk, hkn, rfl, hv, hl, hi, hg, hbw⟩ := hrel
    have HV := Lib.hid hv
    have HL := Lib.hid hl
    have HI := Lib.hid hi
    have HG := Lib.hid hg
    have HBW := Lib.hid hbw
    have HK := Lib.hid hk
    clear hv hl hi hg hbw hk
    by_cases hlt : k < n ∧ k < 30
    · obtain ⟨h1, h2⟩ := hlt
      have q1 : (k : Int) < (n : Int) := by omega
      have q2 : (k : Int) < 30 := by omega
      have k0 : (0 : Int) ≤ (k : Int) := by omega
      obtain ⟨b, o, rfl, hb, hcell⟩ := (HS.out.below HBW.out).int h1
      have hkl : k < l.length := by have := HS.out.len; rw [List.length_map] at this; omega
      have hget : l.getD k 0 = l[k] := by simp [List.getD, List.getElem?_eq_getElem hkl]
      have hss := HR.out l[k] (List.getElem_mem hkl)
      rw [hget] at hcell
      obtain ⟨y, hy⟩ : ∃ y, y = l[k] := ⟨_, rfl⟩
      rw [← hy] at hcell hss
      obtain ⟨t1, t2, t3⟩ := tdiv4 hss.1 hss.2
      obtain ⟨dv, hdv⟩ : ∃ d, d = y.tdiv 4 := ⟨_, rfl⟩
      have t4 : wrap64 (y.tdiv 4) = dv := by rw [hdv]; exact t1
      rw [← hdv] at t2 t3
      clear t1 hdv
      obtain ⟨q, hq, hwq⟩ : ∃ q : Nat, q < 4 ∧ ∀ w : World, Calls Try.prog 12 #[.int .i64 y, .int .i64 4] w fun e w' => e = .returned (.int .i64 (q : Int)) ∧ w = w' := by
        obtain ⟨k, h1, _, h2⟩ := within_nat y 4 (by decide) (by decide) hss.1 hss.2
        exact ⟨k, h1, h2⟩
      obtain ⟨m, hm, hwm⟩ : ∃ m : Nat, m < 150 ∧ ∀ w : World, Calls Try.prog 12 #[.int .i64 dv, .int .i64 150] w fun e w' => e = .returned (.int .i64 (m : Int)) ∧ w = w' := by
        obtain ⟨k, h1, _, h2⟩ := within_nat dv 150 (by decide) (by decide) t2 t3
        exact ⟨k, h1, h2⟩
      have HQ := Lib.hid hq
      have HM := Lib.hid hm
      have HWQ := Lib.hid hwq
      have HWM := Lib.hid hwm
      have H1 := Lib.hid h1
      have H2 := Lib.hid h2
      clear hss hget hy hkl hb h1 h2 hkn hq hwq hm hwm t2 t3
      go_wp2_with fail
      go_quiet (first
        | (go_at_call 12; with_reducible refine Calls.mono (HWQ.out _) ?_; rintro e w' ⟨rfl, rfl⟩; exact ⟨rfl, _, rfl⟩)
        | (go_at_call 12; with_reducible refine Calls.mono (HWM.out _) ?_; rintro e w' ⟨rfl, rfl⟩; exact ⟨rfl, _, rfl⟩))
      clear t4 hcell
      go_wp2_with fail
      obtain ⟨W4, hW4⟩ : ∃ W, W = wr.drewN nq := ⟨_, rfl⟩
      rw [← hW4]
      have hb4 : Below wr.heap.size wr W4 := by rw [hW4]; exact ⟨rfl, rfl, rfl, Nat.le_refl _, fun _ _ => rfl⟩
      have HV4 := Lib.hid (HV.out.below hb4)
      have HG4 := Lib.hid (HG.out.below hb4 HG.out.lt)
      have HBW4 := Lib.hid (HBW.out.trans (hb4.mono HBW.out.size))
      clear hb4 hW4
      go_loopw [10, 11] (fun tv jv wi => ∃ j : Nat, j ≤ 4 ∧ tv = .int .i64 (sx s q j : Int) ∧ jv = .int .i64 (j : Int) ∧ W4 = wi) (fun _ jv _ => 4 - (intOf jv).toNat)
      case atStart => exact ⟨0, by omega, rfl, rfl, rfl⟩
      case round =>
        obtain ⟨j, hj, rfl, rfl, hwi⟩ := hrel
        subst hwi
        by_cases hj4 : j < 4
        · have p1 : (j : Int) < 4 := by omega
          have p0 : (0 : Int) ≤ (j : Int) := by omega
          have HJ4 := Lib.hid hj4
          by_cases e : j = q
          · have hsx : sx s q (j + 1) = sx s q j := by simp [sx, e]
            have HSX := Lib.hid hsx
            have HE := Lib.hid e
            have p2 : (j : Int) = (q : Int) := by rw [e]
            clear hsx e hj hj4
            go_wp2_with fail
            go_roundw
            case rel => exact ⟨j + 1, by have := HJ4.out; omega, by rw [HSX.out], by go_num, trivial⟩
            case measure => have := HJ4.out; simp [intOf]; omega
          · obtain ⟨t, ht⟩ : ∃ t, t = sx s q j := ⟨_, rfl⟩
            obtain ⟨u, hu⟩ : ∃ u, u = s j := ⟨_, rfl⟩
            obtain ⟨v, hv⟩ : ∃ v, v = sx s q (j + 1) := ⟨_, rfl⟩
            have hvv : v = t + u := by rw [hv, ht, hu]; simp [sx, e]
            have hc := (HG4.out.cells j).trans (bx4_get s hj4)
            rw [← hu] at hc
            rw [← ht]
            have p3 : wrap64 ((t : Int) + (u : Int)) = (v : Int) := by
              have h1 := sx_le s q HI.out.le j
              have h2 := HI.out.le j
              unfold wrap64
              omega
            have p2 : ((j : Int) == (q : Int)) = false := by rw [beq_eq_false_iff_ne]; omega
            have p6 : ¬ (j : Int) = (q : Int) := by omega
            have p7 : ¬ j = q := e
            have HVV := Lib.hid hv
            clear hvv ht hu hv e hj hj4
            go_wp2_with fail
            go_roundw
            case rel => exact ⟨j + 1, by have := HJ4.out; omega, by rw [p3, HVV.out], by go_num, trivial⟩
            case measure => have := HJ4.out; simp [intOf]; omega
        · have hj4' : j = 4 := by omega
          subst hj4'
          obtain ⟨t, ht⟩ : ∃ t, t = sx s q 4 := ⟨_, rfl⟩
          rw [← ht]
          have HT := Lib.hid ht
          clear ht hj hj4
          have p4 : (q : Int) < 4 := by have := HQ.out; omega
          have p5 : (0 : Int) ≤ (q : Int) := by omega
          have hzz := zeros_run m (by have := HM.out; omega)
          obtain ⟨ZB, hZB⟩ : ∃ Z, Z = Obj.cells (byts (List.replicate m 0)).toArray 5 := ⟨_, rfl⟩
          rw [← hZB] at hzz
          have hcs : ∀ (W : World), (W.alloc (Obj.cells #[Value.string ⟨#[97]⟩, Value.string ⟨#[98]⟩, Value.string ⟨#[99]⟩, Value.string ⟨#[100]⟩] 9)).cell? ⟨W.heap.size, q, none⟩ = some (.string (nmR q)) := fun W => by
            rw [cell_of_row _ _ _ _ _ _ (heap_alloc_new W _)]
            have h : q = 0 ∨ q = 1 ∨ q = 2 ∨ q = 3 := by have := HQ.out; omega
            rcases h with rfl | rfl | rfl | rfl <;> rfl
          have hcs2 : ∀ (W : World) (Z : Obj), ((W.alloc Z).alloc (Obj.cells #[Value.string ⟨#[97]⟩, Value.string ⟨#[98]⟩, Value.string ⟨#[99]⟩, Value.string ⟨#[100]⟩] 9)).cell? ⟨W.heap.size + 1, q, none⟩ = some (.string (nmR q)) := fun W Z => by
            have h := hcs (W.alloc Z)
            rw [show (W.alloc Z).heap.size = W.heap.size + 1 from Array.size_push ..] at h
            exact h
          have hcs3 : ∀ (W : World) (Z : Obj), ((W.alloc (Obj.cells #[Value.string ⟨#[97]⟩, Value.string ⟨#[98]⟩, Value.string ⟨#[99]⟩, Value.string ⟨#[100]⟩] 9)).alloc Z).cell? ⟨W.heap.size, q, none⟩ = some (.string (nmR q)) := fun W Z => by
            refine (((Below.refl _ _).alloc (Nat.le_refl _) Z).cell (p := ⟨W.heap.size, q, none⟩) ?_).trans (hcs W)
            exact Nat.lt_of_lt_of_eq (Nat.lt_succ_self _) (Array.size_push ..).symm
          have HZB := Lib.hid hZB
          clear hZB
          have p8 : wrap64 ((t : Int) + (m : Int)) = ((t + m : Nat) : Int) := by
            have h1 := sx_le s q HI.out.le 4
            have h2 := HM.out
            have h3 := HT.out
            unfold wrap64
            omega
          obtain ⟨tm, htm⟩ : ∃ x, x = t + m := ⟨_, rfl⟩
          rw [← htm] at p8
          by_cases hf : R < tm
          · have p9 : (R : Int) < (tm : Int) := by omega
            have hwe := HI.out.full HL.out HQ.out (q := q) (m := m) (by rw [← HT.out, ← htm]; exact hf)
            clear hf htm
            ·
              have hwx : ∀ (W : World) (g : Nat), Below W4.heap.size W4 W → W.heap[g]? = some ZB → Calls Try.prog 18 #[.pointer (some ⟨W1.heap.size, 0, none⟩), .string (nmR q), .slice (some ⟨g, 0, none⟩) m m] W (fun e w' => e = .returned (.int .i64 14) ∧ Vp w' W3.heap.size W1.heap.size V ∧ Below w.heap.size w w' ∧ Bx w' W2.heap.size (bx4 s) 51) := fun W g hb hh => by
                rw [HZB.out] at hh
                have h0 := write_any (s := nmR q) (c := m) (HV4.out.below hb) HL.out (sees_at (n := m) (l := List.replicate m 0) hh (List.length_replicate ..).symm) (show 1 ≤ maxLen by decide) (by have := HM.out; have := HK.out; rw [List.length_replicate]; omega)
                rw [hwe] at h0
                refine h0.mono fun e w' h => ⟨h.1, h.2.1, ?_, ?_⟩
                · have h2 := (HBW4.out.trans (hb.mono HBW4.out.size))
                  exact h2.trans (h.2.2.below (Nat.le_trans HBW3.out.size (Nat.le_refl _)) HB1.out.size h2.size)
                · have h2 := HG4.out.below hb HG4.out.lt
                  exact h2.mo h.2.2 (by have := HBX2.out.lt; omega) (by have := HZ3.out; omega)
              have HWX := Lib.hid hwx
              clear hwx
              clear hwe
              go_wp2_with fail
              go_region_with (go_at_call 18; (with_reducible refine (HWX.out _ _ (blw2 _ _ _) (by first | exact zat1 _ _ _ | exact zat2 _ _ _)).mono ?_); rintro e W6 ⟨rfl, hv6, hbw6, hg6⟩; have hl6 := HL.out.more (M := (k + 1) * 200) (by omega); have hi6 := HI.out; obtain ⟨s6, hs6⟩ : ∃ x, x = s := ⟨_, rfl⟩; obtain ⟨V6, hV6⟩ : ∃ x, x = V := ⟨_, rfl⟩; rw [← hV6] at hv6 hl6 hi6; rw [← hs6] at hi6 hg6; clear hs6 hV6)
              all_goals (
                clear hzz hcs hcs2 hcs3 p4 p5
                go_upto_region 23 with fail
                clear p8 p9
                have HV6 := Lib.hid hv6
                have HL6 := Lib.hid hl6
                have HI6 := Lib.hid hi6
                have HG6 := Lib.hid hg6
                have HBW6 := Lib.hid hbw6
                clear hv6 hl6 hi6 hg6 hbw6
                have d0 : W6.cell? ⟨W2.heap.size, 0, none⟩ = some (.int .i64 (s6 0 : Int)) := HG6.out.cells 0
                have d1 : W6.cell? ⟨W2.heap.size, 1, none⟩ = some (.int .i64 (s6 1 : Int)) := HG6.out.cells 1
                have d2 : W6.cell? ⟨W2.heap.size, 2, none⟩ = some (.int .i64 (s6 2 : Int)) := HG6.out.cells 2
                have d3 : W6.cell? ⟨W2.heap.size, 3, none⟩ = some (.int .i64 (s6 3 : Int)) := HG6.out.cells 3
                obtain ⟨b1, b2, b3, e1, e2, e3, e4⟩ := sum4 (HI6.out.le 0) (HI6.out.le 1) (HI6.out.le 2) (HI6.out.le 3)
                have hus : ∀ W, Vp W W3.heap.size W1.heap.size V6 → Calls Try.prog 25 #[.pointer (some ⟨W1.heap.size, 0, none⟩)] W fun e w' => e = .returned (.int .i64 (b3 : Int)) ∧ W = w' := fun W h => by
                  have := used_any h
                  rw [HI6.out.used, e4] at this
                  exact this
                have hud : ∀ n : Nat, Calls Try.prog 25 #[.pointer (some ⟨W1.heap.size, 0, none⟩)] (W6.drewN n) fun e w' => e = .returned (.int .i64 (b3 : Int)) ∧ W6.drewN n = w' := fun n => hus _ (HV6.out.below ⟨rfl, rfl, rfl, Nat.le_refl _, fun _ _ => rfl⟩)
                have HUS := Lib.hid hud
                generalize s6 0 = a0 at d0 e1
                generalize s6 1 = a1 at d1 e1
                generalize s6 2 = a2 at d2 e2
                generalize s6 3 = a3 at d3 e3
                clear e4 hus hud
                go_quiet ((go_at_call 25; (with_reducible refine Calls.mono (HUS.out _) ?_); rintro e w' ⟨rfl, rfl⟩; exact ⟨rfl, _, rfl⟩))
                clear d0 d1 d2 d3 e1 e2 e3
                go_wp2_with fail
                go_roundw
                case rel => exact ⟨k + 1, s6, V6, by have := H2.out; omega, by have := H1.out; omega, by go_num, HV6.out.below ⟨rfl, rfl, rfl, Nat.le_refl _, fun _ _ => rfl⟩, HL6.out, HI6.out, HG6.out, HBW6.out.os, HBW6.out.tape, HBW6.out.output, HBW6.out.size, HBW6.out.block⟩
                case measure => have := H2.out; simp [intOf]; omega)
          · have p9 : ¬ (R : Int) < (tm : Int) := by omega
            obtain ⟨hwe, hri⟩ := HI.out.more HL.out HQ.out (q := q) (m := m) HM.out (by rw [← HT.out, ← htm]; exact hf)
            have hlm := HL.out.does (nmR q).data.toList (some (List.replicate m 0))
            obtain ⟨V6, hV6⟩ : ∃ x, x = V.does (nmR q).data.toList (some (List.replicate m 0)) := ⟨_, rfl⟩
            rw [← hV6] at hwe hri hlm
            have hl6 := hlm.more (M := (k + 1) * 200) (by have := HM.out; simp only [olen, List.length_replicate, nmR]; show k * 200 + (1 + m + 1) ≤ _; omega)
            have HL6 := Lib.hid hl6
            have HI6 := Lib.hid hri
            clear hf htm hlm hV6 hl6 hri
            ·
              have hwx : ∀ (W : World) (g : Nat), Below W4.heap.size W4 W → W.heap[g]? = some ZB → Calls Try.prog 18 #[.pointer (some ⟨W1.heap.size, 0, none⟩), .string (nmR q), .slice (some ⟨g, 0, none⟩) m m] W (fun e w' => e = .returned (.int .i64 0) ∧ Vp w' W3.heap.size W1.heap.size V6 ∧ Below w.heap.size w w' ∧ Bx w' W2.heap.size (bx4 s) 51) := fun W g hb hh => by
                rw [HZB.out] at hh
                have h0 := write_any (s := nmR q) (c := m) (HV4.out.below hb) HL.out (sees_at (n := m) (l := List.replicate m 0) hh (List.length_replicate ..).symm) (show 1 ≤ maxLen by decide) (by have := HM.out; have := HK.out; rw [List.length_replicate]; omega)
                rw [hwe] at h0
                refine h0.mono fun e w' h => ⟨h.1, h.2.1, ?_, ?_⟩
                · have h2 := (HBW4.out.trans (hb.mono HBW4.out.size))
                  exact h2.trans (h.2.2.below (Nat.le_trans HBW3.out.size (Nat.le_refl _)) HB1.out.size h2.size)
                · have h2 := HG4.out.below hb HG4.out.lt
                  exact h2.mo h.2.2 (by have := HBX2.out.lt; omega) (by have := HZ3.out; omega)
              have HWX := Lib.hid hwx
              clear hwx
              clear hwe
              go_wp2_with fail
              go_region_with (go_at_call 18; (with_reducible refine (HWX.out _ _ (blw2 _ _ _) (by first | exact zat1 _ _ _ | exact zat2 _ _ _)).mono ?_); rintro e W5 ⟨rfl, hv5, hbw5, hg5⟩; have r5 := (hg5.cells q).trans (bx4_get s HQ.out); have f5 := hg5.free q; have HV5 := Lib.hid hv5; have HBW5 := Lib.hid hbw5; have HG5 := Lib.hid hg5; clear hv5 hbw5 hg5)
              all_goals (
                generalize (s q : Int) = sq at r5
                clear hzz hcs hcs2 hcs3
                go_upto_region 23 with fail
                clear p8 p9
                obtain ⟨W6, hW6⟩ : ∃ W, W = W5.setCell ⟨W2.heap.size, q, none⟩ (.int .i64 (m : Int)) := ⟨_, rfl⟩
                rw [← hW6]
                have hm6 : Mv W5 W6 (· = W2.heap.size) := by rw [hW6]; exact Mv.setCell _ _ _
                have hv6 : Vp W6 W3.heap.size W1.heap.size V6 := HV5.out.old (hm6.weak fun x _ e => by rw [e]; exact ⟨by have := HZ3.out; omega, by have := HBX2.out.lt; omega⟩)
                have hg6 : Bx W6 W2.heap.size (bx4 (up s q m)) 51 := by
                  have h := HG5.out.set q (.int .i64 (m : Int))
                  rw [bx4_up s HQ.out] at h
                  rw [hW6]; exact h
                have hbw6 : Below w.heap.size w W6 := HBW5.out.trans (hm6.toB HBW5.out.size fun x e => by rw [e]; exact Nat.le_trans HB1.out.size HB2.out.size)
                have hl6 := HL6.out
                have hi6 := HI6.out
                obtain ⟨s6, hs6⟩ : ∃ x, x = up s q m := ⟨_, rfl⟩
                rw [← hs6] at hi6 hg6
                clear hs6 hm6 r5 f5 hW6
                have HV6 := Lib.hid hv6
                have HL6 := Lib.hid hl6
                have HI6 := Lib.hid hi6
                have HG6 := Lib.hid hg6
                have HBW6 := Lib.hid hbw6
                clear hv6 hl6 hi6 hg6 hbw6
                have d0 : W6.cell? ⟨W2.heap.size, 0, none⟩ = some (.int .i64 (s6 0 : Int)) := HG6.out.cells 0
                have d1 : W6.cell? ⟨W2.heap.size, 1, none⟩ = some (.int .i64 (s6 1 : Int)) := HG6.out.cells 1
                have d2 : W6.cell? ⟨W2.heap.size, 2, none⟩ = some (.int .i64 (s6 2 : Int)) := HG6.out.cells 2
                have d3 : W6.cell? ⟨W2.heap.size, 3, none⟩ = some (.int .i64 (s6 3 : Int)) := HG6.out.cells 3
                obtain ⟨b1, b2, b3, e1, e2, e3, e4⟩ := sum4 (HI6.out.le 0) (HI6.out.le 1) (HI6.out.le 2) (HI6.out.le 3)
                have hus : ∀ W, Vp W W3.heap.size W1.heap.size V6 → Calls Try.prog 25 #[.pointer (some ⟨W1.heap.size, 0, none⟩)] W fun e w' => e = .returned (.int .i64 (b3 : Int)) ∧ W = w' := fun W h => by
                  have := used_any h
                  rw [HI6.out.used, e4] at this
                  exact this
                have hud : ∀ n : Nat, Calls Try.prog 25 #[.pointer (some ⟨W1.heap.size, 0, none⟩)] (W6.drewN n) fun e w' => e = .returned (.int .i64 (b3 : Int)) ∧ W6.drewN n = w' := fun n => hus _ (HV6.out.below ⟨rfl, rfl, rfl, Nat.le_refl _, fun _ _ => rfl⟩)
                have HUS := Lib.hid hud
                generalize s6 0 = a0 at d0 e1
                generalize s6 1 = a1 at d1 e1
                generalize s6 2 = a2 at d2 e2
                generalize s6 3 = a3 at d3 e3
                clear e4 hus hud
                go_quiet ((go_at_call 25; (with_reducible refine Calls.mono (HUS.out _) ?_); rintro e w' ⟨rfl, rfl⟩; exact ⟨rfl, _, rfl⟩))
                clear d0 d1 d2 d3 e1 e2 e3
                go_wp2_with fail
                go_roundw
                case rel => exact ⟨k + 1, s6, V6, by have := H2.out; omega, by have := H1.out; omega, by go_num, HV6.out.below ⟨rfl, rfl, rfl, Nat.le_refl _, fun _ _ => rfl⟩, HL6.out, HI6.out, HG6.out, HBW6.out.os, HBW6.out.tape, HBW6.out.output, HBW6.out.size, HBW6.out.block⟩
                case measure => have := H2.out; simp [intOf]; omega)
    · by_cases h1 : k < n
      · have q1 : (k : Int) < (n : Int) := by omega
        have q2 : ¬ (k : Int) < 30 := by omega
        have hro := room_any HV.out
        rw [HI.out.room] at hro
        have hrr := HRR.out
        obtain ⟨x1, hx1⟩ : ∃ x : Int, x = -1 - (R : Int) := ⟨_, rfl⟩
        obtain ⟨x2, hx2⟩ : ∃ x : Int, x = 1048577 + (R : Int) := ⟨_, rfl⟩
        have e1 : wrap64 (-1 - (R : Int)) = x1 := by rw [hx1]; unfold wrap64; omega
        have e2 : wrap64 (1048577 + (R : Int)) = x2 := by rw [hx2]; unfold wrap64; omega
        have hn1 := new_room x1 0 (by omega)
        have hn2 := new_room x2 1048576 (by omega)
        have HRO := Lib.hid hro
        have HN1 := Lib.hid hn1
        have HN2 := Lib.hid hn2
        clear hro hrr hx1 hx2 hn1 hn2 hlt h1
        go_wp2_with (first
          | (go_at_call 26; (with_reducible refine HRO.out.mono ?_); rintro e W ⟨rfl, rfl⟩)
          | (go_at_call 13; (with_reducible refine (HN1.out _).mono ?_); rintro e W5 ⟨rfl, hb5, hr5⟩; have HB5 := Lib.hid hb5; have HR5 := Lib.hid hr5; clear hb5 hr5)
          | (go_at_call 26; (with_reducible refine HR5.out.mono ?_); rintro e W ⟨rfl, rfl⟩)
          | (go_at_call 13; (with_reducible refine (HN2.out _).mono ?_); rintro e W6 ⟨rfl, hb6, hr6⟩; have HB6 := Lib.hid hb6; have HR6 := Lib.hid hr6; clear hb6 hr6)
          | (go_at_call 26; (with_reducible refine HR6.out.mono ?_); rintro e W ⟨rfl, rfl⟩))
        go_ret
        exact ⟨rfl, HBW.out.trans ((HB5.out.trans (HB6.out.mono HB5.out.size)).mono HBW.out.size)⟩
      · have q1 : ¬ (k : Int) < (n : Int) := by omega
        have hro := room_any HV.out
        rw [HI.out.room] at hro
        have hrr := HRR.out
        obtain ⟨x1, hx1⟩ : ∃ x : Int, x = -1 - (R : Int) := ⟨_, rfl⟩
        obtain ⟨x2, hx2⟩ : ∃ x : Int, x = 1048577 + (R : Int) := ⟨_, rfl⟩
        have e1 : wrap64 (-1 - (R : Int)) = x1 := by rw [hx1]; unfold wrap64; omega
        have e2 : wrap64 (1048577 + (R : Int)) = x2 := by rw [hx2]; unfold wrap64; omega
        have hn1 := new_room x1 0 (by omega)
        have hn2 := new_room x2 1048576 (by omega)
        have HRO := Lib.hid hro
        have HN1 := Lib.hid hn1
        have HN2 := Lib.hid hn2
        clear hro hrr hx1 hx2 hn1 hn2 hlt h1
        go_wp2_with (first
          | (go_at_call 26; (with_reducible refine HRO.out.mono ?_); rintro e W ⟨rfl, rfl⟩)
          | (go_at_call 13; (with_reducible refine (HN1.out _).mono ?_); rintro e W5 ⟨rfl, hb5, hr5⟩; have HB5 := Lib.hid hb5; have HR5 := Lib.hid hr5; clear hb5 hr5)
          | (go_at_call 26; (with_reducible refine HR5.out.mono ?_); rintro e W ⟨rfl, rfl⟩)
          | (go_at_call 13; (with_reducible refine (HN2.out _).mono ?_); rintro e W6 ⟨rfl, hb6, hr6⟩; have HB6 := Lib.hid hb6; have HR6 := Lib.hid hr6; clear hb6 hr6)
          | (go_at_call 26; (with_reducible refine HR6.out.mono ?_); rintro e W ⟨rfl, rfl⟩))
        go_ret
        exact ⟨rfl, HBW.out.trans ((HB5.out.trans (HB6.out.mono HB5.out.size)).mono HBW.out.size)⟩
end Go.Proofs.Ytaokoejedpbejaa.Vf
