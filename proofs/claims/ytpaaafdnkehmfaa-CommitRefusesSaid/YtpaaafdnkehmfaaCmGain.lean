/- commit: how many bytes each file will have more; whether there is room. No conditions but that there is no more than 2^40 of anything. -/
import Derived.Test.YtpaaafdnkehmfaaCmJour
namespace Go.Proofs.Ytpaaafdnkehmfaa.Vf
open Go.RowKit
set_option maxRecDepth 100000

def ints (l : List Int) : List Value := l.map (Value.int .i64)
theorem gns_next {l f : FL} {k : Nat} {x : BS × BS} (h : l[k]? = some x) : (gns f l)[k]? = some (gn f x) := by
  rw [gns, List.getElem?_map, h]; rfl
/-- Numbers, done up to k. -/
def part (l : List Int) (k n : Nat) : List Int := l.take k ++ List.replicate (n - k) 0
theorem part_next {l : List Int} {k n : Nat} {x : Int} (h : l[k]? = some x) (hk : k < n) : (ints (part l k n)).set k (.int .i64 x) = ints (part l (k + 1) n) := by
  obtain ⟨hl, rfl⟩ := List.getElem?_eq_some_iff.1 h
  unfold ints part
  rw [← List.map_set]
  congr 1
  have h1 : (l.take k).length = k := by rw [List.length_take]; omega
  rw [List.set_append_right _ _ (by omega), h1, Nat.sub_self, show n - k = (n - (k + 1)) + 1 by omega, List.replicate_succ, List.set_cons_zero, List.take_succ_eq_append_getElem hl, List.append_assoc]
  rfl
theorem info_int : (Try.prog.info? 3).map (fun i => (i.zero, i.size, i.bytes)) = some (some (.int .i64 0), 1, 8) := by kernel_rfl
theorem make_ints (n : Nat) (hn : n ≤ 1000) (W : World) : (Instr.makeSlice 26 (.int .i64 (n : Int)) (.int .i64 (n : Int))).run Try.prog W = .ok (.slice (some ⟨W.heap.size, 0, none⟩) n n) (W.alloc (.cells (ints (List.replicate n 0)).toArray 3)) := by
  obtain ⟨i, hi, hz, hs, hb⟩ := info_parts info_int
  have h := run_make (P := Try.prog) W 26 3 i (.int .i64 0) Try.underlying26 hi hz .i64 .i64 n n (by omega) (by omega) (by rw [hb]; omega) (by omega)
  rw [h, hs]
  simp only [Int.toNat_natCast, Nat.mul_one]
  congr 3
  apply Array.toList_inj.1
  rw [show (Value.int IntKind.i64 0).cells = #[.int .i64 0] from rfl, toList_madeCells_one]
  simp [ints]
theorem olen_getD (o : Option BS) : olen o = (o.getD []).length := by cases o <;> rfl
theorem Vm.read_live {V : Vm} (hd : V.dead = false) (k : BS) : V.read k = ((fnd V.now k).getD [], (fnd V.now k).isSome, 0) := by
  unfold Vm.read
  rw [if_neg (by rw [hd]; simp)]
section
variable {V : Vm} {w : World} {B p N : Nat} {A : Option Addr} {n c : Nat} {l : FL}
set_option maxHeartbeats 4000000 in
theorem gains_any (h : Vp w B p V) (hl : Lim V N) (hN : N ≤ 1099511627776) (hd : V.dead = false) (hF : Fr w (fun g => g < w.heap.size) A n l) (hz : Szl l) :
    Calls Try.prog 71 #[.pointer (some ⟨p, 0, none⟩), .slice A n c] w fun e w' => ∃ G, e = .returned (.slice (some ⟨G, 0, none⟩) n n) ∧ w.heap.size ≤ G ∧ Bx w' G (ints (gns V.now l)) 3 ∧ Below w.heap.size w w' := by
  have hn8 : n ≤ 8 := by have := hF.len; have := hz.cnt; omega
  have hmk := make_ints n (by omega)
  have H := Lib.hid h
  have HL := Lib.hid hl
  have HN := Lib.hid hN
  have HD := Lib.hid hd
  have HF := Lib.hid hF
  have HZ := Lib.hid hz
  clear h hl hN hd hF hz
  go_enter Try.func71, Try.ntmps71
  go_upto_region 2 with fail
  clear hmk
  go_wp2_with fail
  obtain ⟨W0, hW0⟩ : ∃ W, W = w.alloc (Obj.cells (ints (List.replicate n 0)).toArray 3) := ⟨_, rfl⟩
  rw [← hW0]
  have hx0 : Bx W0 w.heap.size (ints (part (gns V.now l) 0 n)) 3 := by rw [hW0]; exact Bx.new w _ _
  have hb0 : Below w.heap.size w W0 := by rw [hW0]; exact (Below.refl _ _).alloc (Nat.le_refl _) _
  have HX0 := Lib.hid hx0
  have HB0 := Lib.hid hb0
  clear hx0 hb0 hW0
  go_loopw [16] (fun i wr => ∃ (k : Nat), k ≤ n ∧ i = .int .i64 (k : Int) ∧ Hid (Bx wr w.heap.size (ints (part (gns V.now l) k n)) 3) ∧ Hid (Below w.heap.size w wr)) (fun i _ => n - (intOf i).toNat)
  case atStart => exact ⟨0, Nat.zero_le _, rfl, HX0, HB0⟩
  case round =>
    obtain ⟨k, hk, rfl, HX, HB⟩ := hrel
    by_cases hlt : k < n
    · have hkl : k < l.length := by have := HF.out.len; omega
      obtain ⟨⟨s, xb⟩, hx⟩ : ∃ x, l[k]? = some x := ⟨_, List.getElem?_eq_getElem hkl⟩
      have hF2 := HF.out.below HB.out
      obtain ⟨b, o, Af, nf, cf, rfl, hbl, hc1, hc2, hsf, _, hcm⟩ := hF2.at_ k (s, xb) hx
      have hlen : nf = xb.length := hsf.len
      subst hlen
      simp only at hc1 hc2 hsf
      have hsz := HZ.out.size (s, xb) (List.mem_of_getElem? hx)
      simp only at hsz
      have hkn : (k : Int) < (n : Int) := by omega
      have hk0 : (0 : Int) ≤ (k : Int) := by omega
      have hnx := part_next (gns_next (f := V.now) hx) hlt
      obtain ⟨W1, hW1⟩ : ∃ W, W = wr.alloc (Obj.cells #[.string ⟨s.toArray⟩, .slice Af xb.length cf] 56) := ⟨_, rfl⟩
      have hb1 : Below wr.heap.size wr W1 := by rw [hW1]; exact (Below.refl _ _).alloc (Nat.le_refl _) _
      have hx1 : Bx W1 wr.heap.size [.string ⟨s.toArray⟩, .slice Af xb.length cf] 56 := by rw [hW1]; exact Bx.new wr _ _
      have z1 : W1.cell? ⟨wr.heap.size, 1, none⟩ = some (.slice Af xb.length cf) := hx1.cells 1
      have hl1 : wr.heap.size < W1.heap.size := hx1.lt
      have hw1 : Below w.heap.size w W1 := HB.out.trans (hb1.mono HB.out.size)
      have hrd := read_any (s := ⟨s.toArray⟩) (H.out.below hw1) HL.out (by show s.toArray.size ≤ _; rw [List.size_toArray]; unfold maxLen; omega) HN.out
      rw [Vm.read_live HD.out] at hrd
      have hg : w.heap.size < wr.heap.size := HX.out.lt
      have hu : ((fnd V.now s).getD []).length ≤ 1099511627776 := by
        have h1 := olen_fnd_le s V.now
        have h2 := HL.out.now
        have h3 := HN.out
        rw [← olen_getD]; omega
      have hgn : gn V.now (s, xb) = (xb.length : Int) - (((fnd V.now s).getD []).length : Int) := by unfold gn; rw [olen_getD]
      have HRD := Lib.hid hrd
      have HW1 := Lib.hid hw1
      have HNX := Lib.hid hnx
      have HLT := Lib.hid hlt
      have HXX := Lib.hid (HX.out.below hb1 hg)
      have HU := Lib.hid hu
      have HGN := Lib.hid hgn
      clear hrd hw1 hnx hlt hx hx1 hb1 hF2 hsf hcm hkl hu hgn
      subst hW1
      go_upto_region 6 with (go_at_call 21; (with_reducible refine HRD.out.mono ?_); rintro e w2 ⟨A2, n2, c2, rfl, hn2, ho2, hz2, hb2⟩; have HN2 := Lib.hid hn2; clear hn2)
      have y1 := (hb2.cell (p := ⟨wr.heap.size, 1, none⟩) hl1).trans z1
      have hX2 := HXX.out.below (hb2.mono (Nat.le_of_lt hl1)) hg
      have hn2' : n2 = ((fnd V.now s).getD []).length := HN2.out
      have hwn : wrap64 ((xb.length : Int) - (n2 : Int)) = gn V.now (s, xb) := by
        have := HU.out
        rw [HGN.out, hn2']
        unfold wrap64
        omega
      have hfz := hX2.free k
      have hck : ∃ z, w2.cell? ⟨w.heap.size, k, none⟩ = some (.int .i64 z) := by
        have hlen : k < (part (gns V.now l) k n).length := by
          have := HLT.out
          have h2 := HF.out.len
          simp only [part, List.length_append, List.length_take, List.length_replicate, gns, List.length_map]; omega
        refine ⟨(part (gns V.now l) k n)[k], ?_⟩
        rw [hX2.cells k, ints, List.getElem?_map, List.getElem?_eq_getElem hlen]; rfl
      obtain ⟨zk, hck⟩ := hck
      have HX2 := Lib.hid hX2
      have HB2 := Lib.hid hb2
      generalize gn V.now (s, xb) = gk at hwn HNX
      clear hX2 hb2 ho2 hz2 hn2' HGN
      go_wp2_with fail
      go_roundw
      case rel =>
        have h9 := HX2.out.set k (.int .i64 gk)
        rw [HNX.out] at h9
        refine ⟨k + 1, HLT.out, by go_num, Lib.hid h9, Lib.hid ?_⟩
        refine (HW1.out.trans (HB2.out.mono HW1.out.size)).trans ?_
        exact (Mv.setCell w2 ⟨w.heap.size, k, none⟩ _).toB (Nat.le_trans HW1.out.size HB2.out.size) fun g e => by rw [e]; exact Nat.le_refl _
      case measure => have := HLT.out; simp [intOf]; omega
    · obtain rfl : k = n := by omega
      have hkn : ¬ (k : Int) < (k : Int) := by omega
      have e : part (gns V.now l) k k = gns V.now l := by
        unfold part
        rw [Nat.sub_self, List.take_of_length_le (by rw [gns, List.length_map, ← HF.out.len]; exact Nat.le_refl _)]
        simp
      have HE := Lib.hid e
      clear e
      go_wp2_with fail
      go_ret
      exact ⟨w.heap.size, rfl, Nat.le_refl _, by rw [← HE.out]; exact HX.out, HB.out⟩
theorem sumP_next {l : List Int} {k : Nat} {x : Int} (h : l[k]? = some x) : sumP (l.take (k + 1)) = sumP (l.take k) + max x 0 := by
  obtain ⟨hk, rfl⟩ := List.getElem?_eq_some_iff.1 h
  rw [List.take_succ_eq_append_getElem hk]
  generalize l.take k = a
  induction a with
  | nil => simp [sumP]
  | cons y r ih => simp only [List.cons_append, sumP, ih]; omega
theorem gn_bound {V : Vm} {N : Nat} (hl : Lim V N) (hN : N ≤ 1099511627776) (hz : Szl l) : ∀ x ∈ gns V.now l, -1099511627776 ≤ x ∧ x ≤ 8000 := by
  intro x hx
  obtain ⟨y, hy, rfl⟩ := List.mem_map.1 hx
  have h1 := hz.size y hy
  have h2 := olen_fnd_le y.1 V.now
  have h3 := hl.now
  unfold gn
  omega
theorem sumP_bound {l : List Int} (h : ∀ x ∈ l, x ≤ 8000) : 0 ≤ sumP l ∧ sumP l ≤ l.length * 8000 := by
  induction l with
  | nil => exact ⟨Int.le_refl _, Int.le_refl _⟩
  | cons x r ih =>
    have h1 := h x (by simp)
    have h2 := ih fun y hy => h y (by simp [hy])
    simp only [sumP, List.length_cons]
    omega
theorem gns_length (f l : FL) : (gns f l).length = l.length := by simp [gns]
set_option maxHeartbeats 4000000 in
theorem more_any (h : Vp w B p V) (hl : Lim V N) (hN : N ≤ 1099511627776) (hd : V.dead = false) (hF : Fr w (fun g => g < w.heap.size) A n l) (hz : Szl l) :
    Calls Try.prog 56 #[.pointer (some ⟨p, 0, none⟩), .slice A n c] w fun e w' => e = .returned (.int .i64 (sumP (gns V.now l))) ∧ Below w.heap.size w w' := by
  have hn8 : n ≤ 8 := by have := hF.len; have := hz.cnt; omega
  have hnl := hF.len
  have hg := gains_any (c := c) h hl hN hd hF hz
  have hgb := gn_bound hl hN hz
  have hgl := gns_length V.now l
  generalize gns V.now l = gs at hg hgb hgl ⊢
  have HG := Lib.hid hg
  have HGB := Lib.hid hgb
  have HGL := Lib.hid (hgl.trans hnl.symm)
  clear h hl hN hd hF hz hg hgb hgl hnl
  go_enter Try.func56, Try.ntmps56
  go_wp2_with (go_at_call 71; (with_reducible refine HG.out.mono ?_); rintro e w1 ⟨G, rfl, hG, hx, hb⟩; have HX := Lib.hid hx; have HB := Lib.hid hb; clear hx hb)
  go_loopw [5, 12] (fun s i wr => ∃ (k : Nat), k ≤ n ∧ i = .int .i64 (k : Int) ∧ s = .int .i64 (sumP (gs.take k)) ∧ w1 = wr) (fun _ i _ => n - (intOf i).toNat)
  case atStart => exact ⟨0, Nat.zero_le _, rfl, rfl, rfl⟩
  case round =>
    obtain ⟨k, hk, rfl, rfl, hw⟩ := hrel
    subst hw
    by_cases hlt : k < n
    · obtain ⟨x, hx⟩ : ∃ x, gs[k]? = some x := ⟨_, List.getElem?_eq_getElem (by have := HGL.out; omega)⟩
      have hc : w1.cell? ⟨G, k, none⟩ = some (.int .i64 x) := by rw [HX.out.cells k, ints, List.getElem?_map, hx]; rfl
      have hkn : (k : Int) < (n : Int) := by omega
      have hk0 : (0 : Int) ≤ (k : Int) := by omega
      have hb := HGB.out x (List.mem_of_getElem? hx)
      have hs := sumP_bound (l := gs.take k) fun y hy => (HGB.out y (List.mem_of_mem_take hy)).2
      have hsl : (gs.take k).length ≤ 8 := by rw [List.length_take]; omega
      have hnx := sumP_next hx
      have hwr : wrap64 (sumP (gs.take k) + max x 0) = sumP (gs.take (k + 1)) := by
        rw [hnx]; unfold wrap64; omega
      have HWR := Lib.hid hwr
      have HLT := Lib.hid hlt
      clear hx hb hs hsl hnx hlt hwr
      generalize sumP (gs.take k) = sk at HWR
      by_cases hx0 : x ≤ 0
      · have hm : max x 0 = 0 := by omega
        have hwr := HWR.out
        rw [hm, Int.add_zero] at hwr
        go_wp2_with fail
        go_roundw
        case rel => exact ⟨k + 1, HLT.out, by go_num, by rw [← hwr], trivial⟩
        case measure => have := HLT.out; simp [intOf]; omega
      · have hm : max x 0 = x := by omega
        have hwr := HWR.out
        rw [hm] at hwr
        go_wp2_with fail
        go_roundw
        case rel => exact ⟨k + 1, HLT.out, by go_num, by rw [← hwr], trivial⟩
        case measure => have := HLT.out; simp [intOf]; omega
    · obtain rfl : k = n := by omega
      have hkn : ¬ (k : Int) < (k : Int) := by omega
      have e : gs.take k = gs := List.take_of_length_le (by have := HGL.out; omega)
      have HE := Lib.hid e
      clear e
      go_wp2_with fail
      go_ret
      exact ⟨by rw [HE.out]; rfl, HB.out⟩
theorem fitL_next {room : Int} : ∀ {gs : List Int} {k : Nat} {x u : Int}, gs[k]? = some x → fitL room u (gs.drop k) = if room < u + x then false else fitL room (u + x) (gs.drop (k + 1)) := by
  intro gs k x u h
  obtain ⟨hk, rfl⟩ := List.getElem?_eq_some_iff.1 h
  rw [List.drop_eq_getElem_cons hk, fitL]
set_option maxHeartbeats 4000000 in
theorem fits_any (h : Vp w B p V) (hl : Lim V N) (hN : N ≤ 1099511627776) (hd : V.dead = false) (hF : Fr w (fun g => g < w.heap.size) A n l) (hz : Szl l) :
    Calls Try.prog 76 #[.pointer (some ⟨p, 0, none⟩), .slice A n c] w fun e w' => e = .returned (.bool (fitL V.room (used V.now) (gns V.now l))) ∧ Below w.heap.size w w' := by
  have hn8 : n ≤ 8 := by have := hF.len; have := hz.cnt; omega
  have hnl := hF.len
  have hg := gains_any (c := c) h hl hN hd hF hz
  have hgb := gn_bound hl hN hz
  have hgl := gns_length V.now l
  have hus := used_any h
  have hu := hl.now
  generalize gns V.now l = gs at hg hgb hgl ⊢
  generalize used V.now = u0 at hus hu ⊢
  have HRM := Lib.hid (fun W (hW : Below w.heap.size w W) => room_any (h.below hW))
  have HG := Lib.hid hg
  have HGB := Lib.hid hgb
  have HGL := Lib.hid (hgl.trans hnl.symm)
  have HUS := Lib.hid hus
  have HU := Lib.hid (show (u0 : Int) ≤ 1099511627776 by omega)
  clear h hl hN hd hF hz hg hgb hgl hnl hus hu
  go_enter Try.func76, Try.ntmps76
  go_wp2_with (first
    | (go_at_call 45; (with_reducible refine HUS.out.mono ?_); rintro e w0 ⟨rfl, rfl⟩)
    | (go_at_call 71; (with_reducible refine HG.out.mono ?_); rintro e w1 ⟨G, rfl, hG, hx, hb⟩; have HX := Lib.hid hx; have HB := Lib.hid hb; clear hx hb))
  go_loopw [5, 14] (fun s i wr => ∃ (k : Nat) (u : Int), k ≤ n ∧ i = .int .i64 (k : Int) ∧ s = .int .i64 u ∧ Hid (fitL V.room u0 gs = fitL V.room u (gs.drop k)) ∧ Hid (-1099511627776 * k ≤ u ∧ u ≤ 1099511627776 + 8000 * k) ∧ w1 = wr) (fun _ i _ => n - (intOf i).toNat)
  case atStart => exact ⟨0, _, Nat.zero_le _, rfl, rfl, Lib.hid rfl, Lib.hid (by have := HU.out; omega), rfl⟩
  case round =>
    obtain ⟨k, u, hk, rfl, rfl, HE, HUB, hw⟩ := hrel
    subst hw
    by_cases hlt : k < n
    · obtain ⟨x, hx⟩ : ∃ x, gs[k]? = some x := ⟨_, List.getElem?_eq_getElem (by have := HGL.out; omega)⟩
      have hc : w1.cell? ⟨G, k, none⟩ = some (.int .i64 x) := by rw [HX.out.cells k, ints, List.getElem?_map, hx]; rfl
      have hkn : (k : Int) < (n : Int) := by omega
      have hk0 : (0 : Int) ≤ (k : Int) := by omega
      have hb := HGB.out x (List.mem_of_getElem? hx)
      have hub := HUB.out
      have hnx := fitL_next (room := V.room) (u := u) hx
      have hwr : wrap64 (u + x) = u + x := by unfold wrap64; omega
      have HUB2 := Lib.hid (show -1099511627776 * ((k + 1 : Nat) : Int) ≤ u + x ∧ u + x ≤ 1099511627776 + 8000 * ((k + 1 : Nat) : Int) by omega)
      have HNX := Lib.hid hnx
      have HLT := Lib.hid hlt
      have HR1 := Lib.hid (HRM.out _ HB.out)
      clear hx hb hub hnx hlt
      by_cases hr : V.room < u + x
      · have hE2 : fitL V.room u0 gs = false := by rw [HE.out, HNX.out, if_pos hr]
        have HE2 := Lib.hid hE2
        clear hE2
        generalize V.room = rm at HR1 hr
        go_wp2_with (go_at_call 36; (with_reducible refine HR1.out.mono ?_); rintro e w2 ⟨rfl, rfl⟩)
        go_ret
        exact ⟨by rw [HE2.out]; rfl, HB.out⟩
      · have hE2 : fitL V.room u0 gs = fitL V.room (u + x) (gs.drop (k + 1)) := by rw [HE.out, HNX.out, if_neg hr]
        have HE2 := Lib.hid hE2
        clear hE2
        go_wp2_with (go_at_call 36; (with_reducible refine HR1.out.mono ?_); rintro e w2 ⟨rfl, rfl⟩)
        go_roundw
        case rel => exact ⟨k + 1, u + x, HLT.out, by go_num, rfl, HE2, HUB2, trivial⟩
        case measure => have := HLT.out; simp [intOf]; omega
    · obtain rfl : k = n := by omega
      have hkn : ¬ (k : Int) < (k : Int) := by omega
      have HE2 : Hid (fitL V.room u0 gs = true) := Lib.hid (by rw [HE.out, List.drop_of_length_le (by have := HGL.out; omega), fitL])
      go_wp2_with fail
      go_ret
      exact ⟨by rw [HE2.out]; rfl, HB.out⟩
end
end Go.Proofs.Ytpaaafdnkehmfaa.Vf
