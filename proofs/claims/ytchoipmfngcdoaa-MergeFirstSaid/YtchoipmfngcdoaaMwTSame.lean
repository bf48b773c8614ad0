/- Two trees: whether all is the same; Same of the program. Conditions: fewer edges than 2^39. · Numbers from 0 to n - 1 (within of three packages); a leaf beside others. Conditions: n is not below 1. · An argument of raw edges, opened: it reads as a tree of names in memory. No conditions. -/
import Derived.Test.YtchoipmfngcdoaaMwClLev
import Derived.Test.YtchoipmfngcdoaaMwSame
import Derived.Deep.LoopGhost
import Derived.StillTailTactics
import Derived.Outline
import Derived.Test.YtchoipmfngcdoaaMwWords
import Derived.WalkArith
import Derived.LoopTactic
import Derived.SizedLaws
namespace Go.Proofs.Ytchoipmfngcdoaa
open Go.RowKit
set_option maxRecDepth 100000

/-- The pairs in L lie in memory; m edges below the left ones; v: all are the same. -/
inductive PTodo (w : World) (B : Nat) : List PJob → Nat → Bool → Prop where
  | nil : PTodo w B [] 0 true
  | cons {L : List PJob} {x : PJob} {t u : Tr} {m : Nat} {v : Bool} (h1 : Holds w B x.a1 x.n1 t) (h2 : Holds w B x.a2 x.n2 u) (hl : PTodo w B L m v) : PTodo w B (L ++ [x]) (m + t.size + 1) (v && t.same u)
theorem PTodo.keep {w w' : World} {B : Nat} (hk : ∀ p : Addr, p.block < B → w'.cell? p = w.cell? p) {L : List PJob} {m : Nat} {v : Bool} (h : PTodo w B L m v) : PTodo w' B L m v := by
  induction h with
  | nil => exact .nil
  | cons h1 h2 _ ih => exact .cons (h1.keep hk) (h2.keep hk) ih
theorem PTodo.len {w : World} {B : Nat} {L : List PJob} {m : Nat} {v : Bool} (h : PTodo w B L m v) : L.length ≤ m := by
  induction h with
  | nil => exact Nat.le_refl _
  | cons h1 h2 _ ih => simp; omega

set_option maxHeartbeats 2000000 in
theorem tsame_any (t0 u0 : Tr) (A A2 : Option Addr) (n n2 c c2 B : Nat) (w : World) (h : Holds w B A n t0) (h2 : Holds w B A2 n2 u0) (hB : B ≤ w.heap.size) (hsz : t0.size ≤ 549755813888) :
    Calls Try.prog 52 #[.slice A n c, .slice A2 n2 c2] w fun e w' => e = .returned (.bool (t0.same u0)) ∧ Below B w w' := by
  go_enter Try.func52, Try.ntmps52
  go_wp2_with fail
  go_loopg [] (t0.size + 1) (fun k wr => ∃ L v, k ≤ t0.size + 1 ∧ PTodo wr B L k v ∧ PStk wr w.heap.size (w.heap.size + 1) L ∧ Hid (v = t0.same u0) ∧ Below B w wr ∧ w.heap.size + 2 ≤ wr.heap.size)
  case atStart =>
    refine ⟨[⟨A, n, c, A2, n2, c2⟩], true && t0.same u0, Nat.le_refl _, ?_, ⟨by omega, some ⟨w.heap.size, 0, none⟩, 1, ?_, ?_⟩, Lib.hid (by simp), ((Below.refl B w).alloc hB _).alloc (by simp; omega) _, by simp⟩
    · have := PTodo.cons (L := []) (x := ⟨A, n, c, A2, n2, c2⟩) h h2 .nil
      have := this.keep (w' := (w.alloc (Obj.cells #[Value.slice A n c, Value.slice A2 n2 c2] 119)).alloc (Obj.cells #[Value.slice (some { block := w.heap.size, off := 0 }) 1 1] 121)) (fun p hp => by
        rw [World.cell?_alloc_lt _ _ _ (by simp; omega), World.cell?_alloc_lt _ _ _ (by omega)])
      simpa using this
    · have := heap_alloc_new (w.alloc (Obj.cells #[Value.slice A n c, Value.slice A2 n2 c2] 119)) (Obj.cells #[Value.slice (some { block := w.heap.size, off := 0 }) 1 1] 121)
      simpa using this
    · exact (World.ownsRow_lit (base := w.heap.size) (e := 119) (size := 2) w #[Value.slice A n c, Value.slice A2 n2 c2] 1 (Nat.le_refl _) (by simp [maxLen]) rfl).alloc _
  case round =>
    obtain ⟨L, v, hk, hT, hS, Hv, hbr, hle⟩ := hrel
    cases hT with
    | nil =>
      obtain ⟨A', c', hb, _⟩ := hS.row
      have hbx : wr.cell? ⟨w.heap.size + 1, 0, none⟩ = some (.slice A' 0 c') := by rw [cell_of_row wr _ 0 _ _ _ hb]; rfl
      clear hb
      go_wp2_with fail
      go_ret
      exact ⟨by rw [← Hv.out]; rfl, hbr⟩
    | @cons L x t u m v h1 h2 hT =>
      obtain ⟨A', c', hb, _⟩ := hS.row
      have hbx : wr.cell? ⟨w.heap.size + 1, 0, none⟩ = some (.slice A' (L.length + 1) c') := by rw [cell_of_row wr _ 0 _ _ _ hb]; simp
      have hLl : L.length ≤ 1099511627776 := by have := hT.len; omega
      clear hb
      obtain ⟨a1, n1, c1, a2, n2', c2'⟩ := x
      simp only at h1 h2
      by_cases hne : n1 = n2'
      · subst hne
        have hn1 : ((n1 : Int) != (n1 : Int)) = false := by simp
        have Hl1 := Lib.hid h1.len
        have Hl2 := Lib.hid h2.len
        have hnb : n1 ≤ 549755813889 := by have := Hl1.out; have := t.len_size; omega
        go_wp2_with (go_at_call 62; refine (ppop_any _ _ L _ _ hS hLl).mono ?_; rintro e w1 ⟨rfl, hS1, hg1⟩; have hle1 := hg1.size; have hb1 : Below B wr w1 := (Below.refl _ _).grown hg1 (by omega) (fun q hq => by injection hq with hq; omega))
        have hbw : Below B w w1 := hbr.trans hb1
        have hT1 := hT.keep fun p hp => hb1.cell hp
        have h1' := h1.keep fun p hp => hb1.cell hp
        have h2' := h2.keep fun p hp => hb1.cell hp
        have hg3 := heap_alloc_new w1 (Obj.cells #[Value.slice a1 n1 c1, Value.slice a2 n1 c2'] 119)
        have hfar := hS1.far (Nat.le_refl w1.heap.size)
        clear hT h1 h2 hS hbx hbr
        go_loopw [28] (fun i wl => ∃ (k : Nat) (L2 : List PJob) (m2 : Nat) (v2 : Bool), k ≤ n1 ∧ i = .int .i64 k ∧ PTodo wl B L2 m2 v2 ∧ PStk wl w.heap.size (w.heap.size + 1) L2 ∧ Holds wl B a1 n1 t ∧ Holds wl B a2 n1 u ∧ m2 + (t.dropT k).size = m + t.size ∧ Hid ((v2 && (t.dropT k).same (u.dropT k)) = t0.same u0) ∧ Below B w wl ∧ w1.heap.size + 1 ≤ wl.heap.size ∧ wl.heap[w1.heap.size]? = some (Obj.cells #[Value.slice a1 n1 c1, Value.slice a2 n1 c2'] 119 (0, 0)) ∧ PFar wl (w.heap.size + 1) w1.heap.size) (fun i _ => n1 - (intOf i).toNat)
        case atStart =>
          refine ⟨0, L, m, v, by omega, rfl, hT1.keep fun p hp => World.cell?_alloc_lt _ _ _ (by omega), hS1.alloc _, h1'.keep fun p hp => World.cell?_alloc_lt _ _ _ (by omega), h2'.keep fun p hp => World.cell?_alloc_lt _ _ _ (by omega), by rw [dropT_zero], by rw [dropT_zero, dropT_zero]; exact Hv, hbw.alloc (by omega) _, by simp, hg3, hfar.grow hS1.lt fun k hk => Below.heap_alloc _ _ k hk⟩
        case round =>
          obtain ⟨k, L2, m2, v2, hkn, rfl, hT2, hS2, hw1, hw2, hm2, Hv2, hbl, hsl2, hp, hf2⟩ := hrel
          have hp1 : wr.cell? ⟨w1.heap.size, 1, none⟩ = some (Value.slice a2 n1 c2') := by rw [cell_of_row _ _ 1 _ _ _ hp]; rfl
          by_cases hlt : k < n1
          · obtain ⟨b, o, s, kt, r, A', n', c', rfl, hb, hs, hc, hn', hc', hk', hr, hd, hd2⟩ := hw1.split k hlt
            obtain ⟨b2, o2, s2, kt2, r2, A2', n2', c2', rfl, hb2, hs2, hc2, hn2', hc2', hk2', hr2, hd3, hd4⟩ := hw2.split k hlt
            have hkn : (k : Int) < (n1 : Int) := by omega
            have hk0 : (0 : Int) ≤ (k : Int) := by omega
            have hlt1 : w1.heap.size < wr.heap.size := by omega
            have hlt2 : b2 < wr.heap.size := by omega
            by_cases hss : s.toList = s2.toList
            · have hq2 : (s.toList == s2.toList) = true := by rw [hss]; simp
              have hsz2 := size_drop t k
              rw [hd] at hsz2 hm2
              simp only [Tr.size] at hsz2 hm2
              have hLm := hT2.len
              have hL2 : L2.length + 1 ≤ 1099511627776 := by omega
              have He2 : Hid (((v2 && kt.same kt2) && (t.dropT (k + 1)).same (u.dropT (k + 1))) = t0.same u0) := by
                have := Hv2.out
                rw [hd, hd3] at this
                simp only [Tr.same] at this
                rw [hd2, hd4, ← this, hss]
                exact Lib.hid (by simp [Bool.and_assoc])
              have hm3 : m2 + kt.size + 1 + (t.dropT (k + 1)).size = m + t.size := by rw [hd2]; omega
              clear hd hd2 hd3 hd4 Hv2 hm2 hsz2 hss
              have hcl : ∀ (W : World), W.heap.size = wr.heap.size + 1 + 1 → ∀ j v, (pjobs [⟨A', n', c', A2', n2', c2'⟩])[j]? = some v → (W.alloc (Obj.cells #[Value.slice A' n' c', Value.slice A2' n2' c2'] 119)).cell? ⟨wr.heap.size + 1 + 1, 0 + j, none⟩ = some v := by
                intro W hW j v hv
                rw [← hW, cell_of_row _ _ _ _ _ _ (heap_alloc_new W _), ← hv]
                simp [pjobs, PJob.cells]
              have hHt : ∀ (W : World), Below B wr W → PTodo W B (L2 ++ [⟨A', n', c', A2', n2', c2'⟩]) (m2 + kt.size + 1) (v2 && kt.same kt2) := fun W hW => .cons (hk'.keep fun p hp => hW.cell hp) (hk2'.keep fun p hp => hW.cell hp) (hT2.keep fun p hp => hW.cell hp)
              have hbx : ∀ o1 o2 o3, Below B wr (((wr.alloc o1).alloc o2).alloc o3) := fun o1 o2 o3 => ((((Below.refl B wr).alloc (by omega) o1).alloc (by simp; omega) o2).alloc (by simp; omega) o3)
              have hS2l := hS2.lt
              have hfx : ∀ o1 o2 o3, PFar (((wr.alloc o1).alloc o2).alloc o3) (w.heap.size + 1) w1.heap.size := fun o1 o2 o3 => hf2.grow hS2l fun k hk => by
                rw [Below.heap_alloc _ _ k (by simp; omega), Below.heap_alloc _ _ k (by simp; omega), Below.heap_alloc _ _ k hk]
              go_wp2_with (go_at_call 63; refine (ppush_any w.heap.size (w.heap.size + 1) (wr.heap.size + 1 + 1) 0 1 1 L2 [⟨A', n', c', A2', n2', c2'⟩] _ (((hS2.alloc _).alloc _).alloc _) rfl (hcl _ (by simp)) hL2 (by simp; omega)).mono ?_; rintro e w2 ⟨⟨v3, rfl⟩, hS3, hb3, hf3⟩)
              have hsz3 := hb3.size
              simp only [World.alloc, Array.size_push] at hsz3
              have hbz := (hbx _ _ _).trans (hb3.mono (by omega))
              obtain ⟨hp3, hf4⟩ := hf3 w1.heap.size (by simp; omega) (hfx _ _ _)
              go_roundw
              case rel => exact ⟨k + 1, _, _, _, by omega, by go_num, hHt w2 hbz, hS3, hw1.keep fun p hp => hbz.cell hp, hw2.keep fun p hp => hbz.cell hp, hm3, He2, hbl.trans hbz, by omega, hp3.trans (heap_keep (heap_keep (heap_keep hp _) _) _), hf4⟩
              case measure => simp [intOf]; omega
            · have hq2 : (s.toList == s2.toList) = false := by simp [hss]
              have He2 : Hid (t0.same u0 = false) := by
                have := Hv2.out
                rw [hd, hd3] at this
                simp only [Tr.same] at this
                rw [← this]
                exact Lib.hid (by simp [hss])
              clear hd hd2 hd3 hd4 Hv2 hss
              go_wp2_with fail
              go_ret
              exact ⟨by rw [He2.out]; rfl, (hbl.alloc (by omega) _).alloc (by simp; omega) _⟩
          · obtain rfl : k = n1 := by omega
            have He2 : Hid (v2 = t0.same u0) := by
              have := Hv2.out
              rw [drop_len t k (by rw [← Hl1.out]; exact Nat.le_refl _), drop_len u k (by rw [← Hl2.out]; exact Nat.le_refl _)] at this
              rw [← this]
              exact Lib.hid (by simp [Tr.same])
            rw [drop_len t k (by rw [← Hl1.out]; exact Nat.le_refl _)] at hm2
            simp only [Tr.size] at hm2
            clear Hv2 hlt hkn
            go_wp2_with fail
            go_roundg m2
            case measure => omega
            case rel => exact ⟨L2, v2, by omega, hT2, hS2, He2, hbl, by omega⟩
      · have hn1 : ((n1 : Int) != (n2' : Int)) = true := by rw [bne_iff_ne]; omega
        have hs : t.same u = false := by
          cases hv : t.same u with
          | false => rfl
          | true => exact absurd (same_len hv) (by rw [← h1.len, ← h2.len]; exact hne)
        have Hs := Lib.hid hs
        clear hs hne
        go_wp2_with (go_at_call 62; refine (ppop_any _ _ L _ _ hS hLl).mono ?_; rintro e w1 ⟨rfl, hS1, hg1⟩; have hle1 := hg1.size; have hb1 : Below B wr w1 := (Below.refl _ _).grown hg1 (by omega) (fun q hq => by injection hq with hq; omega))
        go_ret
        exact ⟨by rw [← Hv.out, Hs.out, Bool.and_false]; rfl, (hbr.trans hb1).alloc (by omega) _⟩
end Go.Proofs.Ytchoipmfngcdoaa
namespace Go.Proofs.Ytchoipmfngcdoaa
open Go.RowKit
set_option maxRecDepth 100000

/-- A leaf beside others, from its cells. -/
theorem Holds.leaf {w : World} {B b o n : Nat} {s : ByteArray} {r : Tr} (hb : b < B) (h0 : w.cell? ⟨b, o, none⟩ = some (.string s)) (h1 : w.cell? ⟨b, o + 1, none⟩ = some (.slice none 0 0)) (hr : Holds w B (some ⟨b, o + 2, none⟩) n r) : Holds w B (some ⟨b, o, none⟩) (n + 1) (.cons s .nil r) :=
  ⟨b, o, rfl, hb, h0, ⟨none, 0, 0, h1, Nat.le_refl _, Nat.zero_le _, rfl⟩, n, rfl, hr⟩
theorem tmod_pos {a n : Int} (hn : 0 < n) (h : 0 ≤ a.tmod n) : a.tmod n = a % n := by
  have h1 := Int.tmod_add_mul_tdiv a n
  have h2 := Int.tmod_lt_of_pos a hn
  conv => rhs; rw [← h1]
  rw [Int.add_mul_emod_self_left, Int.emod_eq_of_lt h h2]
theorem tmod_neg {a n : Int} (hn : 0 < n) (h : a.tmod n < 0) : a.tmod n + n = a % n := by
  have h1 := Int.tmod_add_mul_tdiv a n
  have h2 := Int.lt_tmod_of_pos a hn
  conv => rhs; rw [← h1]
  rw [Int.add_mul_emod_self_left, ← Int.add_emod_right, Int.emod_eq_of_lt (by omega) (by omega)]

set_option maxHeartbeats 400000 in
set_option maxHeartbeats 400000 in
theorem within4_any (a n : Int) (hn : 0 < n) (hn2 : n ≤ 2147483647) (ha : (Lit.int .i64 a).wf = true) (w : World) : Calls Try.prog 28 #[.int .i64 a, .int .i64 n] w fun e w' => e = .returned (.int .i64 (a % n)) ∧ w = w' := by
  have hx : -9223372036854775808 ≤ a ∧ a ≤ 9223372036854775807 := by simpa [Lit.wf, IntKind.min, IntKind.max, IntKind.signed, IntKind.bits] using ha
  obtain ⟨hx1, hx2⟩ := hx
  have hm1 := Int.tmod_lt_of_pos a hn
  have hm2 := Int.lt_tmod_of_pos a hn
  clear ha
  by_cases h : a.tmod n < 0
  · have Hf := Lib.hid (tmod_neg hn h)
    go_enter Try.func28, Try.ntmps28
    go_wp2
    go_ret
    exact ⟨by rw [← Hf.out]; rfl, rfl⟩
  · have Hf := Lib.hid (tmod_pos hn (by omega : 0 ≤ a.tmod n))
    go_enter Try.func28, Try.ntmps28
    go_wp2
    go_ret
    exact ⟨by rw [← Hf.out]; rfl, rfl⟩

end Go.Proofs.Ytchoipmfngcdoaa
namespace Go.Proofs.Ytchoipmfngcdoaa
open Go.ChangeShapes Go.WideShapes Go.ChangeAt Go.RowKit
set_option maxRecDepth 100000

/-- What memory can hold: names, and how many stand beside each other, below 2^47. -/
def Tr.Fit : Tr → Prop
  | .nil => True
  | .cons s k r => s.size ≤ 140737488351232 ∧ k.len ≤ 140737488351232 ∧ k.Fit ∧ r.Fit

theorem bytes_raw : Try.prog.bytesOf 82 = 40 := by kernel_rfl
theorem weights_all {H : Type} {P : Program} {e : TypeId} : ∀ {l : List (DataW H)} {d : DataW H}, d ∈ l → ∀ n ∈ d.weights P e, n ∈ DataW.weightsAll P e l
  | x :: l, d, hd, n, hn => by
    simp only [DataW.weightsAll, List.mem_append]
    rcases List.mem_cons.1 hd with rfl | hd
    · exact .inl hn
    · exact .inr (weights_all hd n hn)
theorem cells_raw : Try.prog.cellsOf 82 = 2 := by kernel_rfl
theorem cells_raws : Try.prog.cellsOf 40 = 1 := by kernel_rfl
theorem cells_text : Try.prog.cellsOf 9 = 1 := by kernel_rfl

section
variable {H : Type} {enc : TypeId × Value → H} {W : World}

theorem raws_of (fuel : Nat) : ∀ (cs : List Value) (x : DataW H × List MemPlace), DataW.trod enc Try.prog W 0 (fun _ => true) true fuel 40 cs = some x →
    ∃ (A : Option Addr) (n c : Nat) (t : Tr), cs = [.slice A n c] ∧ Holds W W.heap.size A n t ∧ ((∀ m ∈ x.1.weights Try.prog 40, m ≤ 140737488351232) → t.len ≤ 140737488351232 ∧ t.Fit) ∧ n ≤ c ∧ c ≤ maxLen := by
  induction fuel using Nat.strongRecOn with
  | _ fuel ih =>
    intro cs x h
    rcases DataW.trod_slice Try.underlying40 h with ⟨rfl, _⟩ | ⟨a, len, cap, elems, rest, n, hf, rfl, hx, _, hl, hm, hlen, hel, _, _⟩
    · exact ⟨none, 0, 0, .nil, rfl, rfl, fun _ => ⟨Nat.zero_le _, trivial⟩, Nat.le_refl _, Nat.zero_le _⟩
    have hw : (∀ m ∈ x.1.weights Try.prog 40, m ≤ 140737488351232) → len ≤ 140737488351232 ∧ ∀ (i : Nat) (e : DataW H × List MemPlace), elems[i]? = some e → ∀ m ∈ e.1.weights Try.prog 82, m ≤ 140737488351232 := by
      intro h
      rw [hx] at h
      simp only [DataW.weights, Try.underlying40, bytes_raw, List.mem_cons, List.mem_append] at h
      refine ⟨?_, fun i e he m hm => h m (.inr (.inl (weights_all (List.mem_map_of_mem (List.mem_of_getElem? he)) m hm)))⟩
      have := h _ (.inl rfl)
      simp only [List.length_map] at this
      omega
    rw [cells_raw] at hel
    -- one edge
    have one : ∀ i, i < len → ∃ (s : ByteArray) (A' : Option Addr) (n' c' : Nat) (k : Tr), W.cell? (a.add (i * 2)) = some (.string s) ∧ W.cell? (a.add (i * 2 + 1)) = some (.slice A' n' c') ∧ Holds W W.heap.size A' n' k ∧
        ((∀ (i : Nat) (e : DataW H × List MemPlace), elems[i]? = some e → ∀ m ∈ e.1.weights Try.prog 82, m ≤ 140737488351232) → s.size ≤ 140737488351232 ∧ k.len ≤ 140737488351232 ∧ k.Fit) ∧ n' ≤ c' ∧ c' ≤ maxLen := by
      intro i hi
      have he := hel i hi
      rw [List.getElem?_eq_getElem (by omega)] at he
      obtain ⟨cs', hc, ht⟩ := Option.bind_eq_some_iff.1 he
      obtain ⟨_, hcl, hat⟩ := World.cells?_some hc
      obtain ⟨ys, n2, hn2, hyx, _, hyl, hfs⟩ := DataW.trod_struct Try.underlying82 ht
      match cs', hcl with
      | [v0, v1], _ =>
        have h0 : DataW.trod enc Try.prog W 0 (fun _ => true) true n2 9 (([v0, v1].drop 0).take (Try.prog.cellsOf 9)) = ys[0]? := hfs 0 _ rfl
        have h1 : DataW.trod enc Try.prog W 0 (fun _ => true) true n2 40 (([v0, v1].drop 1).take (Try.prog.cellsOf 40)) = ys[1]? := hfs 1 _ rfl
        rw [cells_text, List.getElem?_eq_getElem (by rw [hyl]; decide)] at h0
        rw [cells_raws, List.getElem?_eq_getElem (by rw [hyl]; decide)] at h1
        obtain ⟨s, hs, hsd, hsz⟩ := DataW.trod_string Try.underlying9 h0
        obtain ⟨A', n', c', k, hk, hh, hsh, hn', hc'⟩ := ih n2 (by omega) _ _ h1
        have e0 : v0 = .string s := by simpa using hs
        have e1 : v1 = .slice A' n' c' := by simpa using hk
        have c0 := hat 0 (by omega)
        have c1 := hat 1 (by omega)
        rw [addr_add] at c0 c1
        subst e0; subst e1
        refine ⟨s, A', n', c', k, by simpa using c0, by simpa using c1, hh, fun hall => ?_, hn', hc'⟩
        have hwe := hall i _ (List.getElem?_eq_getElem (by omega))
        rw [hyx] at hwe
        match ys, hyl with
        | [y0, y1], _ =>
          simp only [DataW.weights, Try.underlying82, List.map_cons, List.map_nil, DataW.weightsEach, List.append_nil, List.mem_append] at hwe
          have e0 : y0 = (.lit (.string s.data.toList), []) := by simpa using hsd
          refine ⟨?_, hsh (fun m hm => hwe m (.inr (by simpa using hm)))⟩
          have := hwe s.size (.inl (by rw [e0]; simp [DataW.weights]))
          exact this
    -- from the end to the front
    have all : ∀ j, j ≤ len → ∃ t : Tr, Holds W W.heap.size (some (a.add ((len - j) * 2))) j t ∧ ((∀ (i : Nat) (e : DataW H × List MemPlace), elems[i]? = some e → ∀ m ∈ e.1.weights Try.prog 82, m ≤ 140737488351232) → t.Fit) := by
      intro j
      induction j with
      | zero => exact fun _ => ⟨.nil, rfl, fun _ => trivial⟩
      | succ j ihj =>
        intro hj
        obtain ⟨t, ht, hts⟩ := ihj (by omega)
        obtain ⟨s, A', n', c', k, c0, c1, hh, hsh, hn', hc'⟩ := one (len - (j + 1)) (by omega)
        have hb : (a.add ((len - (j + 1)) * 2)).block < W.heap.size := block_lt c0
        have hsp := World.cell?_spot c0
        rw [← addr_add] at c1
        rw [show (len - j) * 2 = (len - (j + 1)) * 2 + 2 by omega, ← addr_add] at ht
        generalize a.add ((len - (j + 1)) * 2) = p at c0 c1 ht hb hsp
        obtain ⟨b, o, sp⟩ := p
        simp only at hsp
        subst hsp
        rw [Addr.add_lit] at c1 ht
        exact ⟨.cons s k t, ⟨b, o, rfl, hb, c0, ⟨A', n', c', c1, hn', hc', hh⟩, j, rfl, ht⟩, fun hall => ⟨(hsh hall).1, (hsh hall).2.1, (hsh hall).2.2, hts hall⟩⟩
    obtain ⟨t, ht, hts⟩ := all len (Nat.le_refl _)
    rw [Nat.sub_self, Nat.zero_mul] at ht
    have hlt := ht.len
    refine ⟨some a, len, cap, t, rfl, ?_, fun h => ⟨by rw [← hlt]; exact (hw h).1, hts (hw h).2⟩, hl, hm⟩
    have e : a.add 0 = a := by simp [Addr.add]
    rwa [e] at ht

theorem open_raws {base : Nat} {v : Value} {d : DataW H} {p : List MemPlace} (hval : Value.okWide Try.prog W .any base 40 v) (h : DataW.Trod enc Try.prog W 0 (fun _ => true) true 40 v d p) :
    ∃ (A : Option Addr) (n c : Nat) (t : Tr), v = .slice A n c ∧ Holds W W.heap.size A n t ∧ ((∀ m ∈ d.weights Try.prog 40, m ≤ 140737488351232) → t.len ≤ 140737488351232 ∧ t.Fit) ∧ n ≤ c ∧ c ≤ maxLen := by
  obtain ⟨a1, len, cap, rfl⟩ := okWide_slice Try.underlying40 hval
  obtain ⟨fuel, hf⟩ := h
  obtain ⟨A, n, c, t, hcs, hh, hs, hn, hc⟩ := raws_of fuel _ _ hf
  simp [Value.cells] at hcs
  obtain ⟨rfl, rfl, rfl⟩ := hcs
  exact ⟨_, _, _, t, rfl, hh, hs, hn, hc⟩
end
end Go.Proofs.Ytchoipmfngcdoaa
