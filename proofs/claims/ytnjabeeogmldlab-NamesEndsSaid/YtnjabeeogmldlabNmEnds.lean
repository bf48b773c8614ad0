/- NamesEnds: with no names, and with all, a set is none, itself, or all: the law's walk. No conditions. -/
import Derived.Test.YtnjabeeogmldlabNmOpen
namespace Go.Proofs.Ytnjabeeogmldlab.Nm
open Go.RowKit
set_option maxRecDepth 100000

def e0 : St := ⟨false, []⟩
def e1 : St := ⟨true, []⟩
theorem e0_mem (x : List UInt8) : e0.mem x = false := rfl
theorem e1_mem (x : List UInt8) : e1.mem x = true := rfl
theorem t1 (a : St) : (both a e0).none = true := none_of (by simp [both, comb, fr, e0]) (fun x => by rw [both_mem, e0_mem, Bool.and_false])
theorem t2 (a : St) : same (both a e1) a = true := same_of (by simp [both, comb, fr, e1]) (fun x => by rw [both_mem, e1_mem, Bool.and_true])
theorem t3 (a : St) : same (either a e0) a = true := same_of (by simp [either, comb, fr, e0]) (fun x => by rw [either_mem, e0_mem, Bool.or_false])
theorem t4 (a : St) : same (either a e1) e1 = true := same_of (by simp [either, comb, fr, e1]) (fun x => by rw [either_mem, e1_mem, Bool.or_true])
theorem t5 : same (nott e0) e1 = true := same_of rfl (fun x => by rw [nott_mem]; rfl)
theorem t6 (a : St) : same (either a (nott a)) e1 = true := same_of (by simp [either, comb, fr, nott, e1]) (fun x => by rw [either_mem, nott_mem, e1_mem]; cases a.mem x <;> rfl)

/-- What the law's calls tell, one behind the other. -/
structure EndsC (a s1 s3 s5 s7 s11 s13 s14 : St) (A : Option Addr) (n c : Nat) (W1 : World) : Prop where
  h1 : ∀ W, Below W1.heap.size W1 W → Calls Try.prog 9 #[.agg #[.bool a.all, .slice A n c], .agg #[.bool false, .slice none 0 0]] W (At W1 s1)
  h2 : ∀ W A2 c2, Below W1.heap.size W1 W → In W s1 A2 s1.l.length → Calls Try.prog 14 #[.agg #[.bool s1.all, .slice A2 s1.l.length c2]] W (Is W1 true)
  h3 : ∀ W, Below W1.heap.size W1 W → Calls Try.prog 9 #[.agg #[.bool a.all, .slice A n c], .agg #[.bool true, .slice none 0 0]] W (At W1 s3)
  h4 : ∀ W A2 c2, Below W1.heap.size W1 W → In W s3 A2 s3.l.length → Calls Try.prog 12 #[.agg #[.bool s3.all, .slice A2 s3.l.length c2], .agg #[.bool a.all, .slice A n c]] W (Is W1 true)
  h5 : ∀ W, Below W1.heap.size W1 W → Calls Try.prog 10 #[.agg #[.bool a.all, .slice A n c], .agg #[.bool false, .slice none 0 0]] W (At W1 s5)
  h6 : ∀ W A2 c2, Below W1.heap.size W1 W → In W s5 A2 s5.l.length → Calls Try.prog 12 #[.agg #[.bool s5.all, .slice A2 s5.l.length c2], .agg #[.bool a.all, .slice A n c]] W (Is W1 true)
  h7 : ∀ W, Below W1.heap.size W1 W → Calls Try.prog 10 #[.agg #[.bool a.all, .slice A n c], .agg #[.bool true, .slice none 0 0]] W (At W1 s7)
  h8 : ∀ W A2 c2, Below W1.heap.size W1 W → In W s7 A2 s7.l.length → Calls Try.prog 12 #[.agg #[.bool s7.all, .slice A2 s7.l.length c2], .agg #[.bool true, .slice none 0 0]] W (Is W1 true)
  h9 : ∀ W, Below W1.heap.size W1 W → Calls Try.prog 14 #[.agg #[.bool false, .slice none 0 0]] W (Is W1 true)
  h10 : ∀ W, Below W1.heap.size W1 W → Calls Try.prog 14 #[.agg #[.bool true, .slice none 0 0]] W (Is W1 false)
  h11 : ∀ W, Below W1.heap.size W1 W → Calls Try.prog 11 #[.agg #[.bool false, .slice none 0 0]] W (At W1 s11)
  h12 : ∀ W A2 c2, Below W1.heap.size W1 W → In W s11 A2 s11.l.length → Calls Try.prog 12 #[.agg #[.bool s11.all, .slice A2 s11.l.length c2], .agg #[.bool true, .slice none 0 0]] W (Is W1 true)
  h13 : ∀ W, Below W1.heap.size W1 W → Calls Try.prog 11 #[.agg #[.bool a.all, .slice A n c]] W (At W1 s13)
  h14 : ∀ W A2 c2, Below W1.heap.size W1 W → In W s13 A2 s13.l.length → Calls Try.prog 10 #[.agg #[.bool a.all, .slice A n c], .agg #[.bool s13.all, .slice A2 s13.l.length c2]] W (At W1 s14)
  h15 : ∀ W A2 c2, Below W1.heap.size W1 W → In W s14 A2 s14.l.length → Calls Try.prog 12 #[.agg #[.bool s14.all, .slice A2 s14.l.length c2], .agg #[.bool true, .slice none 0 0]] W (Is W1 true)

theorem ends_calls (a : St) (A : Option Addr) (n c : Nat) (w : World) (h : In w a A n) (hn : n ≤ 25) : ∃ s1 s3 s5 s7 s11 s13 s14, ∀ W1, Below w.heap.size w W1 → EndsC a s1 s3 s5 s7 s11 s13 s14 A n c W1 := by
  have hal := h.len
  have h3 : (both a e1).l.length ≤ 4096 := by have := both_le a e1; simp only [e1, List.length_nil] at *; omega
  have h5 : (either a e0).l.length ≤ 4096 := by have := either_le a e0; simp only [e0, List.length_nil] at *; omega
  have h7 : (either a e1).l.length ≤ 4096 := by have := either_le a e1; simp only [e1, List.length_nil] at *; omega
  have h11 : (nott e0).l.length ≤ 4096 := by have := nott_le e0; simp only [e0, List.length_nil] at *; omega
  have h13 : (nott a).l.length ≤ 4096 := by have := nott_le a; omega
  have h14 : (either a (nott a)).l.length ≤ 4096 := by have := either_le a (nott a); have := nott_le a; omega
  have hn' : n ≤ 4096 := by omega
  refine ⟨both a e0, both a e1, either a e0, either a e1, nott e0, nott a, either a (nott a), fun W1 hw => ⟨?_, ?_, ?_, ?_, ?_, ?_, ?_, ?_, ?_, ?_, ?_, ?_, ?_, ?_, ?_⟩⟩
  · exact fun W hb => both_at a e0 A none n c 0 0 hn' (by omega) W hb ((h.below hw).below hb) (in_empty W false none)
  · exact fun W A2 c2 hb _ => by have := none_at (both a e0) A2 c2 W hb; rw [t1 a] at this; exact this
  · exact fun W hb => both_at a e1 A none n c 0 0 hn' (by omega) W hb ((h.below hw).below hb) (in_empty W true none)
  · exact fun W A2 c2 hb hi => by have := same_at (both a e1) a A2 A _ c2 n c h3 hn' W hb hi ((h.below hw).below hb); rw [t2 a] at this; exact this
  · exact fun W hb => either_at a e0 A none n c 0 0 hn' (by omega) W hb ((h.below hw).below hb) (in_empty W false none)
  · exact fun W A2 c2 hb hi => by have := same_at (either a e0) a A2 A _ c2 n c h5 hn' W hb hi ((h.below hw).below hb); rw [t3 a] at this; exact this
  · exact fun W hb => either_at a e1 A none n c 0 0 hn' (by omega) W hb ((h.below hw).below hb) (in_empty W true none)
  · exact fun W A2 c2 hb hi => by have := same_at (either a e1) e1 A2 none _ c2 0 0 h7 (by omega) W hb hi (in_empty W true none); rw [t4 a] at this; exact this
  · exact fun W hb => none_at e0 none 0 W hb
  · exact fun W hb => none_at e1 none 0 W hb
  · exact fun W hb => not_at e0 none 0 0 (by omega) W hb (in_empty W false none)
  · exact fun W A2 c2 hb hi => by have := same_at (nott e0) e1 A2 none _ c2 0 0 h11 (by omega) W hb hi (in_empty W true none); rw [t5] at this; exact this
  · exact fun W hb => not_at a A n c hn' W hb ((h.below hw).below hb)
  · exact fun W A2 c2 hb hi => either_at a (nott a) A A2 n c _ c2 hn' h13 W hb ((h.below hw).below hb) hi
  · exact fun W A2 c2 hb hi => by have := same_at (either a (nott a)) e1 A2 none _ c2 0 0 h14 (by omega) W hb hi (in_empty W true none); rw [t6 a] at this; exact this

set_option maxHeartbeats 2000000 in
theorem ends_walk (a : St) (A : Option Addr) (n c : Nat) (w : World) (h : In w a A n) :
    Calls Try.prog 4 #[.agg #[.bool a.all, .slice A n c]] w fun e w' => e = .returned (.bool true) ∧ Below w.heap.size w w' := by
  have HF := Lib.hid (fun W => few_any a.all A n c W)
  by_cases hn : n ≤ 25
  · rw [decide_eq_true hn] at HF
    obtain ⟨s1, s3, s5, s7, s11, s13, s14, HM0⟩ := ends_calls a A n c w h hn
    have HM := Lib.hid HM0
    clear HM0 hn h
    go_enter Try.func4, Try.ntmps4
    go_wp2_with fail
    refine (known_any _).mono ?_
    rintro e w1 ⟨rfl, hb1⟩
    have g0 := Below.box hb1 (heap_alloc_new w _)
    have hsz1 := hb1.size
    simp at hsz1
    obtain ⟨p0, p1, _, _⟩ := box2 g0
    go_wp2_with fail
    refine (HF.out _).mono ?_
    rintro e w2 ⟨rfl, hb2⟩
    have k0 := Below.box hb2 g0
    obtain ⟨q0, q1, _, _⟩ := box2 k0
    have hsz2 := hb2.size
    have hlt : w.heap.size < w2.heap.size := by omega
    have hw2 : Below w.heap.size w w2 := (((Below.refl _ _).alloc (Nat.le_refl _) _).trans (hb1.mono (by simp))).trans (hb2.mono (by omega))
    clear p0 p1 g0 hsz1 hsz2
    go_wp2_with fail
    obtain ⟨W3, hW3, g1, g2, gs, gb⟩ := two w2 (Obj.cells #[Value.bool false, Value.slice none 0 0] 24) (Obj.cells #[Value.bool true, Value.slice none 0 0] 24)
    rw [← hW3]
    clear hW3
    have HE := Lib.hid (HM.out W3 (hw2.trans (gb.mono (by omega))))
    have g0 := Below.box gb k0
    have HK := Lib.hid (fun W (hb : Below W3.heap.size W3 W) => have t0 := box2 (Below.box hb g0); have t1 := box2 (Below.box hb g1); have t2 := box2 (Below.box hb g2); (⟨hb, t0.1, t0.2.1, t1.1, t1.2.1, t2.1, t2.2.1⟩ : Below W3.heap.size W3 W ∧ W.cell? ⟨w.heap.size, 0, none⟩ = some (.bool a.all) ∧ W.cell? ⟨w.heap.size, 1, none⟩ = some (.slice A n c) ∧ W.cell? ⟨w2.heap.size, 0, none⟩ = some (.bool false) ∧ W.cell? ⟨w2.heap.size, 1, none⟩ = some (.slice none 0 0) ∧ W.cell? ⟨w2.heap.size + 1, 0, none⟩ = some (.bool true) ∧ W.cell? ⟨w2.heap.size + 1, 1, none⟩ = some (.slice none 0 0)))
    have hb0 : Below W3.heap.size W3 W3.drew := (Below.refl _ _).drew
    have HW : Hid (Below w.heap.size w W3) := Lib.hid (hw2.trans (gb.mono (by omega)))
    have hsz3 : w.heap.size ≤ W3.heap.size := by omega
    clear HM hb1 hb2 k0 q0 q1 hw2 g0 g1 g2 gb
    go_region_held3 (fun W => Below W3.heap.size W3 W ∧ W.cell? ⟨w.heap.size, 0, none⟩ = some (.bool a.all) ∧ W.cell? ⟨w.heap.size, 1, none⟩ = some (.slice A n c) ∧ W.cell? ⟨w2.heap.size, 0, none⟩ = some (.bool false) ∧ W.cell? ⟨w2.heap.size, 1, none⟩ = some (.slice none 0 0) ∧ W.cell? ⟨w2.heap.size + 1, 0, none⟩ = some (.bool true) ∧ W.cell? ⟨w2.heap.size + 1, 1, none⟩ = some (.slice none 0 0))
      (first | exact HK.out _ hb15 | exact HK.out _ hb14 | exact HK.out _ hb13 | exact HK.out _ hb12 | exact HK.out _ hb11 | exact HK.out _ hb10 | exact HK.out _ hb9 | exact HK.out _ hb8 | exact HK.out _ hb7 | exact HK.out _ hb6 | exact HK.out _ hb5 | exact HK.out _ hb4 | exact HK.out _ hb3 | exact HK.out _ hb2 | exact HK.out _ hb1 | exact HK.out _ hb0)
      (first
        | (go_at_call 9; (with_reducible refine (HE.out.h1 _ hb0).mono ?_); rintro e w1 ⟨A1, c1, rfl, hi1, hb1⟩)
        | (go_at_call 14; (with_reducible refine (HE.out.h2 _ _ c1 hb1 hi1).mono ?_); rintro e w2 ⟨rfl, hb2⟩)
        | (go_at_call 9; (with_reducible refine (HE.out.h3 _ hb2).mono ?_); rintro e w3 ⟨A3, c3, rfl, hi3, hb3⟩)
        | (go_at_call 12; (with_reducible refine (HE.out.h4 _ _ c3 hb3 hi3).mono ?_); rintro e w4 ⟨rfl, hb4⟩)
        | (go_at_call 10; (with_reducible refine (HE.out.h5 _ hb4).mono ?_); rintro e w5 ⟨A5, c5, rfl, hi5, hb5⟩)
        | (go_at_call 12; (with_reducible refine (HE.out.h6 _ _ c5 hb5 hi5).mono ?_); rintro e w6 ⟨rfl, hb6⟩)
        | (go_at_call 10; (with_reducible refine (HE.out.h7 _ hb6).mono ?_); rintro e w7 ⟨A7, c7, rfl, hi7, hb7⟩)
        | (go_at_call 12; (with_reducible refine (HE.out.h8 _ _ c7 hb7 hi7).mono ?_); rintro e w8 ⟨rfl, hb8⟩)
        | (go_at_call 14; (with_reducible refine (HE.out.h9 _ hb8).mono ?_); rintro e w9 ⟨rfl, hb9⟩)
        | (go_at_call 14; (with_reducible refine (HE.out.h10 _ hb9).mono ?_); rintro e w10 ⟨rfl, hb10⟩)
        | (go_at_call 11; (with_reducible refine (HE.out.h11 _ hb10).mono ?_); rintro e w11 ⟨A11, c11, rfl, hi11, hb11⟩)
        | (go_at_call 12; (with_reducible refine (HE.out.h12 _ _ c11 hb11 hi11).mono ?_); rintro e w12 ⟨rfl, hb12⟩)
        | (go_at_call 11; (with_reducible refine (HE.out.h13 _ hb12).mono ?_); rintro e w13 ⟨A13, c13, rfl, hi13, hb13⟩)
        | (go_at_call 10; (with_reducible refine (HE.out.h14 _ _ c13 hb13 hi13).mono ?_); rintro e w14 ⟨A14, c14, rfl, hi14, hb14⟩)
        | (go_at_call 12; (with_reducible refine (HE.out.h15 _ _ c14 hb14 hi14).mono ?_); rintro e w15 ⟨rfl, hb15⟩))
    all_goals
      go_wp2_with fail
      go_ret
      exact ⟨rfl, HW.out.trans (hb15.mono hsz3)⟩
  · rw [decide_eq_false hn] at HF
    go_enter Try.func4, Try.ntmps4
    go_wp2_with fail
    refine (known_any _).mono ?_
    rintro e w1 ⟨rfl, hb1⟩
    have g0 := Below.box hb1 (heap_alloc_new w _)
    obtain ⟨p0, p1, _, _⟩ := box2 g0
    have hsz1 := hb1.size
    simp at hsz1
    go_wp2_with fail
    refine (HF.out _).mono ?_
    rintro e w2 ⟨rfl, hb2⟩
    go_wp2_with fail
    go_ret
    exact ⟨rfl, (((Below.refl _ _).alloc (Nat.le_refl _) _).trans (hb1.mono (by simp))).trans (hb2.mono (by omega))⟩
end Go.Proofs.Ytnjabeeogmldlab.Nm
