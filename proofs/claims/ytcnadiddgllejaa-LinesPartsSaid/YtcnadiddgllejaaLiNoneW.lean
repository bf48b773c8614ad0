/- LinesNone's walk. No conditions. -/
import Derived.Test.YtcnadiddgllejaaLiInsert
namespace Go.Proofs.Ytcnadiddgllejaa.Li
open Go.RowKit
set_option maxRecDepth 100000

theorem place_any (a : Int) (n : Nat) : ∃ k, Place a n k := by
  by_cases h1 : a < 0
  · exact ⟨0, .inl ⟨h1, rfl⟩⟩
  · by_cases h2 : a ≤ n
    · exact ⟨a.toNat, .inr (.inl ⟨by omega, h2, by omega⟩)⟩
    · exact ⟨n, .inr (.inr ⟨by omega, rfl⟩)⟩
theorem insert_two (t : Bs) (k : Nat) : insert [] k [t, [98]] = [(t, [10]), ([98], [10])] := by
  have : ([] : List Ln).take k = [] := by simp
  rw [insert, this]
  simp [endOf, ended]
theorem sees_strs {W : World} {g n : Nat} {ts : List Bs} {arr : Array Value} {e : TypeId} (h : W.heap[g]? = some (.cells arr e (0, 0))) (ha : arr.toList = ts.map encs) (hn : n = ts.length) : SeesV W W.heap.size (some ⟨g, 0, none⟩) n (ts.map encs) :=
  ⟨by rw [List.length_map]; exact hn, fun j u hu => ⟨g, 0, rfl, (Array.getElem?_eq_some_iff.1 h).1, by rw [cell_of_row _ _ _ _ _ _ h, Nat.zero_add, ← Array.getElem?_toList, ha]; exact hu⟩⟩

def RowN (base : Nat) (w : World) (n : Nat) (ls : List Ln) (e : Ending) (w' : World) : Prop :=
  ∃ A c, e = .returned (.slice A n c) ∧ OwnL w' base A n c ls ∧ Below base w w'
theorem Row.n {base n : Nat} {w w' : World} {ls : List Ln} {e : Ending} (hn : n = ls.length) (h : Row base w ls e w') : RowN base w n ls e w' := by
  subst hn; exact h

set_option maxHeartbeats 4000000 in
theorem none_walk (A : Option Addr) (n c : Nat) (l : List Int) (a : Int) (s : ByteArray) (w : World) (h : SeesV w w.heap.size A n (l.map (Value.int .i64))) (hr : ∀ x ∈ l, -9223372036854775808 ≤ x ∧ x ≤ 9223372036854775807) (hc : n ≤ c) (hm : c ≤ maxLen) (ha : -9223372036854775808 ≤ a ∧ a ≤ 9223372036854775807) (hs : s.size ≤ maxLen) :
    Calls Try.prog 7 #[.slice A n c, .int .i64 a, .string s] w fun e w' => e = .returned (.bool true) ∧ Below w.heap.size w w' := by
  have HT := Lib.hid (fun W (hb : Below w.heap.size w W) => text_any A n c l W (SeesV.more hb.size (h.below hb)) hr hc hm)
  unfold maxLen at hs
  have HK := Lib.hid (fun W => known_any W)
  clear h hr hc hm
  by_cases hbig : 100 < s.size
  · have q0 : (100 : Int) < (s.size : Int) := by omega
    go_enter Try.func7, Try.ntmps7
    go_wp2_with fail
    (with_reducible refine (HK.out _).mono ?_)
    rintro e w1 ⟨rfl, hb1⟩
    go_wp2_with fail
    go_ret
    exact ⟨rfl, hb1⟩
  · have q0 : (s.size : Int) ≤ 100 := by omega
    go_enter Try.func7, Try.ntmps7
    go_wp2_with fail
    (with_reducible refine (HK.out _).mono ?_)
    rintro e w1 ⟨rfl, hb1⟩
    go_wp2_with fail
    (with_reducible refine (HT.out _ hb1).mono ?_)
    rintro e w2 ⟨t, ht, rfl, hb2⟩
    have hb12 := hb1.trans (hb2.mono hb1.size)
    clear hb1 hb2
    obtain ⟨ls, hls⟩ : ∃ ls, ls = split t.data.toList := ⟨_, rfl⟩
    have hll := split_len t
    have hgood := split_good t.data.toList
    have HR := Lib.hid (fun W => rsplit_any t W (by omega))
    rw [← hls] at hll hgood HR
    have Hg := Lib.hid hgood
    clear hls hgood
    go_wp2_with fail
    (with_reducible refine (HR.out _).mono ?_)
    rintro e w3 ⟨A1, c1, rfl, ho3, hb3⟩
    have hin3 := ho3.sees
    have hcap := ho3.cap
    have hb13 := hb12.trans (hb3.mono hb12.size)
    obtain ⟨N, hN⟩ : ∃ N, N = ls.length := ⟨_, rfl⟩
    rw [← hN] at hin3 hcap hll
    have HN := Lib.hid hN
    obtain ⟨W0, hW0⟩ : ∃ W, W = w3.alloc (Obj.cells #[.string s, .string ⟨#[98]⟩] 9) := ⟨_, rfl⟩
    have hg0 : W0.heap[w3.heap.size]? = some (.cells #[.string s, .string ⟨#[98]⟩] 9 (0, 0)) := by rw [hW0]; exact heap_alloc_new _ _
    have hbW : Below w3.heap.size w3 W0 := by rw [hW0]; exact (Below.refl _ _).alloc (Nat.le_refl _) _
    have hst := sees_strs (ts := [s.data.toList, [98]]) (n := 2) hg0 rfl rfl
    obtain ⟨k0, hk0⟩ := place_any a 0
    have HX := Lib.hid (insert_any [] none 0 0 [s.data.toList, [98]] (some ⟨w3.heap.size, 0, none⟩) 2 2 a k0 W0 (SeesL.nil _ _ _) (Nat.le_refl _) (by omega) hst (by omega) hk0 ha)
    rw [insert_two] at HX
    obtain ⟨j, hj, HJ'⟩ := within_nat a (N + 5) (by omega) (by omega) ha
    rw [show ((N + 5 : Nat) : Int) = (N : Int) + 5 by omega] at HJ'
    have HJ : Hid (∀ w, Calls Try.prog 16 #[.int .i64 a, .int .i64 ((N : Int) + 5)] w fun e w' => e = .returned (.int .i64 j) ∧ w = w') := Lib.hid HJ'
    obtain ⟨k1, hk1⟩ := place_any ((j : Int) - 2) N
    have HI : Hid (∀ W, Below w3.heap.size w3 W → Calls Try.prog 17 #[.slice A1 N c1, .int .i64 ((j : Int) - 2), .slice none 0 0] W (RowN W.heap.size W N ls)) := Lib.hid (fun W hb => by
      have := insert_any ls A1 N c1 [] none 0 0 ((j : Int) - 2) k1 W ((hin3.below hb).more hb.size) hcap.1 (by omega) ⟨rfl, fun j u h => by simp at h⟩ (by omega) hk1 (by omega)
      rw [insert_none Hg.out] at this
      exact this.mono fun e w' h => h.n HN.out)
    have HS := Lib.hid (fun W A2 c2 (hb : Below w3.heap.size w3 W) (h2 : SeesL W W.heap.size A2 N ls) => same_any ls A2 A1 N c2 N c1 W.heap.size W (Nat.le_refl _) h2 ((hin3.below hb).more hb.size) (by omega))
    have HW := Lib.hid hW0
    have HbW := Lib.hid hbW
    have HB13 := Lib.hid hb13
    have hN5 : (N : Int) + 5 ≤ 200 := by omega
    have hN0 : (0 : Int) ≤ (N : Int) := by omega
    have hj2 : (j : Int) ≤ 200 := by omega
    have hj0 : (0 : Int) ≤ (j : Int) := by omega
    simp only [← hN]
    clear hN hW0 hg0 hbW hst HJ' ho3 hb3 hb12 hb13 hk0 hk1 ha hin3
    go_wp2_with fail
    rw [← HW.out]
    (with_reducible refine HX.out.mono ?_)
    rintro e w4 ⟨A4, c4, rfl, ho4, hb4⟩
    have hin4 := ho4.sees
    have hb34 := HbW.out.trans (hb4.mono HbW.out.size)
    obtain ⟨b4, o4, hA4, hbl4, d1, d2⟩ := hin4.at_ (j := 0) (x := (s.data.toList, [10])) rfl
    obtain ⟨b4', o4', hA4', _, d3, d4⟩ := hin4.at_ (j := 1) (x := ([98], [10])) rfl
    rw [hA4] at hA4'
    injection hA4' with hA4'
    injection hA4' with e1 e2
    subst e1; subst e2
    subst hA4
    have HD := Lib.hid (fun W (hb : Below w4.heap.size w4 W) => (And.intro ((hb.cell (p := ⟨b4, o4, none⟩) hbl4).trans d1) (And.intro ((hb.cell (p := ⟨b4, o4 + 1, none⟩) hbl4).trans d2) (And.intro ((hb.cell (p := ⟨b4, o4 + 1 * 2, none⟩) hbl4).trans d3) ((hb.cell (p := ⟨b4, o4 + 1 * 2 + 1, none⟩) hbl4).trans d4))) : W.cell? ⟨b4, o4, none⟩ = some (.string s) ∧ W.cell? ⟨b4, o4 + 1, none⟩ = some (.string ⟨#[10]⟩) ∧ W.cell? ⟨b4, o4 + 2, none⟩ = some (.string ⟨#[98]⟩) ∧ W.cell? ⟨b4, o4 + 2 + 1, none⟩ = some (.string ⟨#[10]⟩)))
    have hL : ([(s.data.toList, [10]), ([98], [10])] : List Ln).length = 2 := rfl
    have HB34 := Lib.hid hb34
    clear d1 d2 d3 d4 hin4 ho4 hb4 hb34
    go_wp2_with fail
    (with_reducible refine (HJ.out _).mono ?_)
    rintro e w5 ⟨rfl, rfl⟩
    go_wp2_with fail
    (with_reducible refine (HI.out _ HB34.out).mono ?_)
    rintro e w6 ⟨A6, c6, rfl, ho6, hb6⟩
    have hb36 := HB34.out.trans (hb6.mono HB34.out.size)
    have hin6 := ho6.sees
    go_wp2_with fail
    (with_reducible refine (HS.out _ _ _ hb36 hin6).mono ?_)
    rintro e w7 ⟨rfl, hb7⟩
    have hb47 := hb6.trans (hb7.mono hb6.size)
    obtain ⟨p1, p2, p3, p4⟩ := HD.out _ hb47
    go_wp2_with fail
    go_ret
    exact ⟨rfl, HB13.out.trans ((hb36.trans (hb7.mono hb36.size)).mono HB13.out.size)⟩
end Go.Proofs.Ytcnadiddgllejaa.Li
