/- Bytes of the reference. Conditions: fewer than 2^39 bytes. -/
import Derived.Test.YtebiinjcegdmpaaRbPut
import Derived.Test.YtebiinjcegdmpaaWith
import Derived.Deep.RegionHeld3
import Derived.Outline
namespace Go.Proofs.Ytebiinjcegdmpaa
open Go.RowKit
set_option maxRecDepth 100000

theorem rputText_all (A : Option Addr) (n c base : Nat) (l : List UInt8) (s : ByteArray) (w : World) (ho : Own w base A n c l) (hb : base ≤ w.heap.size) (hn : n ≤ 1099511627776) : Calls Try.prog 34 #[.slice A n c, .string s] w fun en w' =>
    PutGot en w w' base A n c l (textB s) := by
  rcases Nat.lt_or_ge 65535 s.size with h | h
  · exact rputText_long A n c base l s w ho hb hn h
  · exact rputText_any A n c base l s w ho hb hn h
theorem kids_drop {t : Tr} {i : Nat} {s : ByteArray} {k r : Tr} (h : t.dropT i = .cons s k r) : (t.dropT i).kids = textB s ++ k.bin ++ r.kids := by rw [h]; rfl

def ByP (w : World) (l : List UInt8) (e : Ending) (w' : World) : Prop := ∃ A' N c', e = .returned (.slice A' N c') ∧ Own w' w.heap.size A' N c' l ∧ Below w.heap.size w w'
set_option maxHeartbeats 4000000 in
theorem rbytes_any (M : Nat) : ∀ (t : Tr) (A : Option Addr) (n c B : Nat) (w : World), t.size ≤ M → Holds w B A n t → B ≤ w.heap.size → t.size ≤ 549755813888 → t.bin.length ≤ 549755813888 →
    Calls Try.prog 11 #[.slice A n c] w (ByP w t.bin) := by
  induction M with
  | zero =>
    intro t A n c B w hM h hB hsz hbl
    cases t with
    | cons s k r => simp [Tr.size] at hM
    | nil =>
      obtain rfl : n = 0 := h
      have hcnt : leB 1 (((0 : Int) % 256).toNat) ++ leB 1 (((0 : Int) % 256).toNat) = Tr.bin .nil := by decide
      have Hcnt := Lib.hid hcnt
      clear hM hsz hbl hcnt
      go_enter Try.func11, Try.ntmps11
      go_wp2_with fail
      (with_reducible refine (rputByte_any none 0 0 w.heap.size [] 0 w (Own.nil w _) (Nat.le_refl _) (by omega)).mono ?_)
      rintro e w1 ⟨⟨A1, N1, c1, rfl, ho1⟩, _, hg1⟩
      have hb1 : Below w.heap.size w w1 := (Below.refl _ w).grown hg1 (Nat.le_refl _) (by simp [Value.ownBlock])
      have hN1 : N1 ≤ 1099511627776 := by rw [ho1.len]; simp [leB_length]
      go_wp2_with fail
      (with_reducible refine (rputByte_any A1 N1 c1 w.heap.size _ 0 w1 ho1 hb1.size hN1).mono ?_)
      rintro e w2 ⟨⟨A2, N2, c2, rfl, ho2⟩, _, hg2⟩
      have hb2 : Below w.heap.size w w2 := hb1.grown hg2 hb1.size (fun k hk => (ho1.lt k hk).1)
      rw [List.nil_append, Hcnt.out] at ho2
      clear ho1 hg1 hg2 hN1 hb1
      have HO2 := Lib.hid ho2
      clear ho2
      go_wp2_with fail
      go_loopw [3, 4] (fun a i wr => a = .slice A2 N2 c2 ∧ i = .int .i64 0 ∧ Hid (wr = w2)) (fun _ _ _ => 0)
      case atStart => exact ⟨rfl, rfl, Lib.hid rfl⟩
      case round =>
        obtain ⟨rfl, rfl, HW⟩ := hrel
        go_wp2_with fail
        go_ret
        exact ⟨A2, N2, c2, rfl, by rw [HW.out]; exact HO2.out, by rw [HW.out]; exact hb2⟩
  | succ M ih =>
    intro t A n c B w hM h hB hsz hbl
    have hnl := h.len
    have hls := t.len_size
    have hnb : n ≤ 549755813888 := by omega
    have hr : ((n : Int).tmod 256) = ((n % 256 : Nat) : Int) := by rw [Int.tmod_eq_emod_of_nonneg (by omega)]; omega
    have hq : IntKind.i64.wrap ((n : Int) / 256) = ((n / 256 : Nat) : Int) := by rw [IntKind.wrap_i64]; omega
    have hcnt : leB 1 ((((n % 256 : Nat) : Int) % 256).toNat) ++ leB 1 ((((n / 256 : Nat) : Int) % 256).toNat) = cnt t.len := by
      rw [← hnl]
      unfold cnt
      congr 2 <;> omega
    have Hnl := Lib.hid hnl
    have Hbl := Lib.hid hbl
    have HM := Lib.hid hM
    have Hsz := Lib.hid hsz
    have Hcnt := Lib.hid hcnt
    have HH := Lib.hid h
    obtain ⟨r0, hr0⟩ : ∃ x, x = n % 256 := ⟨_, rfl⟩
    obtain ⟨q0, hq0⟩ : ∃ x, x = n / 256 := ⟨_, rfl⟩
    rw [← hr0] at hr Hcnt
    rw [← hq0] at hq Hcnt
    clear hnl hls hM hsz hbl hcnt hr0 hq0 h
    go_enter Try.func11, Try.ntmps11
    go_wp2_with fail
    (with_reducible refine (rputByte_any none 0 0 w.heap.size [] (r0 : Nat) w (Own.nil w _) (Nat.le_refl _) (by omega)).mono ?_)
    rintro e w1 ⟨⟨A1, N1, c1, rfl, ho1⟩, _, hg1⟩
    have hb1 : Below w.heap.size w w1 := (Below.refl _ w).grown hg1 (Nat.le_refl _) (by simp [Value.ownBlock])
    have hN1 : N1 ≤ 1099511627776 := by rw [ho1.len]; simp [leB_length]
    go_wp2_with fail
    (with_reducible refine (rputByte_any A1 N1 c1 w.heap.size _ (q0 : Nat) w1 ho1 hb1.size hN1).mono ?_)
    rintro e w2 ⟨⟨A2, N2, c2, rfl, ho2⟩, _, hg2⟩
    have hb2 : Below w.heap.size w w2 := hb1.grown hg2 hb1.size (fun k hk => (ho1.lt k hk).1)
    rw [List.nil_append, Hcnt.out] at ho2
    clear ho1 hg1 hg2 hN1 hb1
    have HO2 := Lib.hid ho2
    clear ho2
    go_wp2_with fail
    go_loopw [3, 4] (fun a i wr => ∃ (k : Nat) (Ar : Option Addr) (Nr cr : Nat) (l : List UInt8), k ≤ n ∧ i = .int .i64 k ∧ a = .slice Ar Nr cr ∧ Hid (Own wr w.heap.size Ar Nr cr l ∧ l ++ (t.dropT k).kids = t.bin) ∧ Below w.heap.size w wr) (fun _ i _ => n - (intOf i).toNat)
    case atStart => exact ⟨0, A2, N2, c2, cnt t.len, Nat.zero_le _, rfl, rfl, Lib.hid ⟨HO2.out, by rw [dropT_zero]; rfl⟩, hb2⟩
    case round =>
      obtain ⟨k, Ar, Nr, cr, l, hk, rfl, rfl, HO, hbw⟩ := hrel
      by_cases hlt : k < n
      · obtain ⟨b, o, s, kt, r, A', n', c', rfl, hb, hs, hc, hn', hc', hk', hrr, hd, hd2⟩ := HH.out.split k hlt
        have hkn : (k : Int) < (n : Int) := by omega
        have hk0 : (0 : Int) ≤ (k : Int) := by omega
        have hsz2 := size_drop t k
        rw [hd] at hsz2
        simp only [Tr.size] at hsz2
        have hkd := kids_drop hd
        rw [← hd2] at hkd
        have hall := HO.out.2
        rw [hkd] at hall
        have hlen := congrArg List.length hall
        simp only [List.length_append] at hlen
        have hNb : Nr ≤ 549755813888 := by have := Hbl.out; have := HO.out.1.len; omega
        have hsum : l.length + (textB s).length + kt.bin.length ≤ 549755813888 := by have := Hbl.out; omega
        have hbx : b < w.heap.size := by omega
        have hbx2 : b < wr.heap.size := Nat.lt_of_lt_of_le hbx hbw.size
        have hs1 := (hbw.cell (p := ⟨b, o + k * 2, none⟩) hbx).trans hs
        have hc1 := (hbw.cell (p := ⟨b, o + k * 2 + 1, none⟩) hbx).trans hc
        have HC := Lib.hid (fun (W : World) (hW : Below w.heap.size w W) => ih kt A' n' c' B W (by have := HM.out; omega) (hk'.keep fun p hp => hW.cell (Nat.lt_of_lt_of_le hp hB)) (Nat.le_trans hB hW.size) (by have := Hsz.out; omega) (by omega))
        have Hall := Lib.hid hall
        have Hl := Lib.hid hlt
        have ho0 : Own wr.drew w.heap.size Ar Nr cr l := HO.out.1.drew
        have hbd : Below w.heap.size w wr.drew := hbw.drew
        have hN40 : Nr ≤ 1099511627776 := by omega
        clear hd hd2 hsz2 hkd hall hlen hlt hk' hrr HO
        go_wp2_with fail
        go_region_held3 (fun w' => w'.cell? ⟨b, o + k * 2, none⟩ = some (.string s) ∧ w'.cell? ⟨b, o + k * 2 + 1, none⟩ = some (.slice A' n' c')) (first | exact ⟨hs1, hc1⟩ | exact ⟨hs3, hc3⟩ | exact ⟨hs4, hc4⟩ | exact ⟨hs5, hc5⟩)
          (first
          | (go_at_call 34; refine (rputText_all Ar Nr cr w.heap.size l s _ ho0 hbd.size hN40).mono ?_; rintro e w3 ⟨⟨A3, N3, c3, rfl, ho3⟩, _, hg3⟩; have hb3 : Below w.heap.size w w3 := hbd.grown hg3 hbd.size (fun k hk => (ho0.lt k hk).1); have hs3 := (hb3.cell (p := ⟨b, o + k * 2, none⟩) hbx).trans hs; have hc3 := (hb3.cell (p := ⟨b, o + k * 2 + 1, none⟩) hbx).trans hc)
          | (go_at_call 11; refine (HC.out _ hb3).mono ?_; rintro e w4 ⟨A4, N4, c4, rfl, ho4, hb4⟩; have ho3' := ho3.keep hb4; have hb4' := hb3.trans (hb4.mono hb3.size); have hs4 := (hb4'.cell (p := ⟨b, o + k * 2, none⟩) hbx).trans hs; have hc4 := (hb4'.cell (p := ⟨b, o + k * 2 + 1, none⟩) hbx).trans hc; have hN34 : N3 + N4 ≤ 70368744177664 := (by have e3 := ho3.len; have e4 := ho4.len; rw [List.length_append] at e3; omega))
          | (refine step_append_from rfl (.tmp 25) (.tmp 31) _ rfl rfl rfl ho3' (From.sees ho4.sees) hN34 hb4'.size ?_; intro A5 N5 c5 w5 ho5 hg5 hat5; have hb5 : Below w.heap.size w w5 := hb4'.grown hg5 hb4'.size (fun k hk => (ho3'.lt k hk).1); have hs5 := (hb5.cell (p := ⟨b, o + k * 2, none⟩) hbx).trans hs; have hc5 := (hb5.cell (p := ⟨b, o + k * 2 + 1, none⟩) hbx).trans hc))
        all_goals
          go_wp2_with fail
          go_roundw
          case rel => exact ⟨k + 1, A5, N5, c5, _, by have := Hl.out; omega, by go_num, rfl, Lib.hid ⟨ho5, by rw [← Hall.out]; simp⟩, hb5⟩
          case measure => have := Hl.out; simp [intOf]; omega
      · obtain rfl : k = n := by omega
        have hO := HO.out.2
        rw [drop_len t k (by rw [← Hnl.out]; exact Nat.le_refl _), show Tr.nil.kids = [] from rfl, List.append_nil] at hO
        have HOo := Lib.hid HO.out.1
        subst hO
        clear HO hlt
        go_wp2_with fail
        go_ret
        exact ⟨Ar, Nr, cr, rfl, HOo.out, hbw⟩
end Go.Proofs.Ytebiinjcegdmpaa
