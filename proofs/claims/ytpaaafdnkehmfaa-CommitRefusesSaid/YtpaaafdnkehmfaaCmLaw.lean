/- commit's laws: the mathematics of Good's files; what each call leaves. No conditions. -/
import Derived.Test.YtpaaafdnkehmfaaCmArg
namespace Go.Proofs.Ytpaaafdnkehmfaa.Vf
open Go.RowKit
set_option maxRecDepth 100000

/-- Bytes with others put in their places. -/
def ov (c2 c1 : List BS) : List BS := c2 ++ c1.drop c2.length
theorem ov_get (c2 c1 : List BS) (i : Nat) : (ov c2 c1)[i]? = match c2[i]? with | some b => some b | none => c1[i]? := by
  unfold ov
  rcases Nat.lt_or_ge i c2.length with h | h
  · rw [List.getElem?_append_left h, List.getElem?_eq_getElem h]
  · rw [List.getElem?_append_right h, List.getElem?_drop, List.getElem?_eq_none h, show c2.length + (i - c2.length) = i by omega]
theorem ov_length (c2 c1 : List BS) : (ov c2 c1).length = max c2.length c1.length := by
  unfold ov
  rw [List.length_append, List.length_drop]
  omega
theorem gd_get {cs : List BS} (h : cs.length ≤ 4) (i : Nat) : (gd cs)[i]? = (cs[i]?).map fun b => (nmK i, b) := by
  match cs, h with
  | [], _ => simp [gd]
  | [_], _ => match i with | 0 => rfl | _ + 1 => simp [gd, nm4]
  | [_, _], _ => match i with | 0 => rfl | 1 => rfl | _ + 2 => simp [gd, nm4]
  | [_, _, _], _ => match i with | 0 => rfl | 1 => rfl | 2 => rfl | _ + 3 => simp [gd, nm4]
  | [_, _, _, _], _ => match i with | 0 => rfl | 1 => rfl | 2 => rfl | 3 => rfl | _ + 4 => simp [gd, nm4]
theorem gd_fnd {cs : List BS} (h : cs.length ≤ 4) {i : Nat} (hi : i < 4) : fnd (gd cs) (nmK i) = cs[i]? := by
  match cs, h, i, hi with
  | [], _, 0, _ => rfl
  | [], _, 1, _ => rfl
  | [], _, 2, _ => rfl
  | [], _, 3, _ => rfl
  | [_], _, 0, _ => rfl
  | [_], _, 1, _ => rfl
  | [_], _, 2, _ => rfl
  | [_], _, 3, _ => rfl
  | [_, _], _, 0, _ => rfl
  | [_, _], _, 1, _ => rfl
  | [_, _], _, 2, _ => rfl
  | [_, _], _, 3, _ => rfl
  | [_, _, _], _, 0, _ => rfl
  | [_, _, _], _, 1, _ => rfl
  | [_, _, _], _, 2, _ => rfl
  | [_, _, _], _, 3, _ => rfl
  | [_, _, _, _], _, 0, _ => rfl
  | [_, _, _, _], _, 1, _ => rfl
  | [_, _, _, _], _, 2, _ => rfl
  | [_, _, _, _], _, 3, _ => rfl
theorem nmK_mem {i : Nat} (h : i < 4) : nmK i ∈ nm4 := by
  match i, h with
  | 0, _ => decide
  | 1, _ => decide
  | 2, _ => decide
  | 3, _ => decide
theorem gd_mem {cs : List BS} (h4 : cs.length ≤ 4) {x : BS × BS} (h : x ∈ gd cs) : ∃ i, i < cs.length ∧ x.1 = nmK i ∧ cs[i]? = some x.2 := by
  obtain ⟨i, hi⟩ := List.getElem?_of_mem h
  rw [gd_get h4] at hi
  obtain ⟨b, hb, rfl⟩ := Option.map_eq_some_iff.1 hi
  exact ⟨i, (List.getElem?_eq_some_iff.1 hb).1, rfl, hb⟩
theorem wths_gd : ∀ c2 c1 : List BS, c2.length ≤ 4 → c1.length ≤ 4 → wths (gd c2) (gd c1) = gd (ov c2 c1)
  | [], [], _, _ => rfl
  | [], [_], _, _ => rfl
  | [], [_, _], _, _ => rfl
  | [], [_, _, _], _, _ => rfl
  | [], [_, _, _, _], _, _ => rfl
  | [_], [], _, _ => rfl
  | [_], [_], _, _ => rfl
  | [_], [_, _], _, _ => rfl
  | [_], [_, _, _], _, _ => rfl
  | [_], [_, _, _, _], _, _ => rfl
  | [_, _], [], _, _ => rfl
  | [_, _], [_], _, _ => rfl
  | [_, _], [_, _], _, _ => rfl
  | [_, _], [_, _, _], _, _ => rfl
  | [_, _], [_, _, _, _], _, _ => rfl
  | [_, _, _], [], _, _ => rfl
  | [_, _, _], [_], _, _ => rfl
  | [_, _, _], [_, _], _, _ => rfl
  | [_, _, _], [_, _, _], _, _ => rfl
  | [_, _, _], [_, _, _, _], _, _ => rfl
  | [_, _, _, _], [], _, _ => rfl
  | [_, _, _, _], [_], _, _ => rfl
  | [_, _, _, _], [_, _], _, _ => rfl
  | [_, _, _, _], [_, _, _], _, _ => rfl
  | [_, _, _, _], [_, _, _, _], _, _ => rfl
  | _ :: _ :: _ :: _ :: _ :: _, _, h, _ => by simp at h
  | _, _ :: _ :: _ :: _ :: _ :: _, _, h => by simp at h
/-- Few bytes each. -/
structure C60 (cs : List BS) : Prop where
  cnt : cs.length ≤ 4
  size : ∀ b ∈ cs, b.length ≤ 60
theorem goodC_60 {m : Nat} (hm : m ≤ 4) (l : FL) : C60 (goodC m l) :=
  ⟨by rw [goodC_length]; omega, fun b hb => by
    obtain ⟨x, _, rfl⟩ := List.mem_map.1 hb
    rw [List.length_take]; omega⟩
theorem C60.ov {c2 c1 : List BS} (h2 : C60 c2) (h1 : C60 c1) : C60 (ov c2 c1) :=
  ⟨by rw [ov_length]; have := h2.cnt; have := h1.cnt; omega, fun b hb => by
    unfold Vf.ov at hb
    rcases List.mem_append.1 hb with hb | hb
    · exact h2.size b hb
    · exact h1.size b (List.mem_of_mem_drop hb)⟩
theorem C60.l4 {cs : List BS} (h : C60 cs) : ∀ x ∈ gd cs, x.1 ∈ nm4 ∧ x.2.length ≤ 60 := fun x hx => by
  obtain ⟨i, hi, e, hc⟩ := gd_mem h.cnt hx
  exact ⟨by rw [e]; exact nmK_mem (by have := h.cnt; omega), h.size _ (List.mem_of_getElem? hc)⟩
theorem nm4_len {k : BS} (h : k ∈ nm4) : k.length = 1 := by
  simp only [nm4, List.mem_cons, List.not_mem_nil, or_false] at h
  rcases h with h | h | h | h <;> rw [h] <;> rfl
theorem C60.few {cs : List BS} (h : C60 cs) : Few100 (gd cs) :=
  ⟨by rw [gd_length h.cnt]; have := h.cnt; omega, fun x hx => by
    have h1 := h.l4 x hx
    have h2 := nm4_len h1.1
    omega⟩
theorem asc_gd : ∀ {cs : List BS}, cs.length ≤ 4 → Asc (gd cs)
  | [], _ => List.Pairwise.nil
  | [_], _ => List.pairwise_singleton _ _
  | [_, _], _ => by simp only [gd, nm4, List.zipWith, Asc, List.pairwise_cons, List.mem_cons, List.not_mem_nil, or_false, forall_eq]; exact ⟨by decide, by simp⟩
  | [_, _, _], _ => by simp only [gd, nm4, List.zipWith, Asc, List.pairwise_cons, List.mem_cons, List.not_mem_nil, or_false, forall_eq_or_imp, forall_eq]; exact ⟨⟨by decide, by decide⟩, by decide, by simp⟩
  | [_, _, _, _], _ => by simp only [gd, nm4, List.zipWith, Asc, List.pairwise_cons, List.mem_cons, List.not_mem_nil, or_false, forall_eq_or_imp, forall_eq]; exact ⟨⟨by decide, by decide, by decide⟩, ⟨by decide, by decide⟩, by decide, by simp⟩
theorem C60.sm {cs : List BS} (h : C60 cs) : Sm (gd cs) :=
  ⟨asc_gd h.cnt, fun k b hb => by
    have h1 := h.l4 _ (mem_of_fnd hb)
    obtain ⟨a1, a2, _, _⟩ := nm4_six h1.1
    exact ⟨a1, by rw [a2]; exact h1.2⟩⟩
theorem C60.none {cs : List BS} (h : C60 cs) {k : BS} (hk : k ∉ nm4) : fnd (gd cs) k = none := by
  cases e : fnd (gd cs) k with
  | none => rfl
  | some b => exact absurd (h.l4 _ (mem_of_fnd e)).1 hk
theorem chkL_gd : ∀ (l pre : FL), (∀ x ∈ l, x.1 ∈ nm4 ∧ x.2.length ≤ 60) → (pre ++ l).Pairwise (fun a b => a.1 < b.1) → chkL pre l = 0
  | [], _, _, _ => rfl
  | x :: r, pre, h, hp => by
    have h1 := h x (by simp)
    have hl := nm4_len h1.1
    obtain ⟨_, _, a3, a4⟩ := nm4_six h1.1
    have e1 : chk1 pre x = 0 := by
      unfold chk1
      rw [if_neg (by
        rintro (e | e | e | e)
        · omega
        · omega
        · exact a3 e
        · exact a4 e), if_neg, if_neg (by omega)]
      intro e
      obtain ⟨y, hy, e⟩ := List.any_eq_true.1 e
      have hlt := (List.pairwise_append.1 hp).2.2 y hy x (by simp)
      have e' : y.1 = x.1 := by simpa using e
      exact lt_ne hlt e'
    rw [chkL, if_pos e1]
    exact chkL_gd r (pre ++ [x]) (fun y hy => h y (by simp [hy])) (by simpa using hp)
theorem C60.chk {cs : List BS} (h : C60 cs) (h1 : 1 ≤ cs.length) : chk (gd cs) = 0 := by
  have := gd_length h.cnt
  have := h.cnt
  unfold Vf.chk
  rw [if_neg (by omega)]
  exact chkL_gd _ _ h.l4 (asc_gd h.cnt)
theorem wrL_60 : ∀ (l : FL), (∀ x ∈ l, x.1.length = 1 ∧ x.2.length ≤ 60) → (wrL l).length ≤ l.length * 65
  | [], _ => Nat.zero_le _
  | x :: l, h => by
    have h1 := h x (by simp)
    have := wrL_60 l fun y hy => h y (by simp [hy])
    simp only [wrL, List.length_append, tx_length, List.length_cons]
    omega
theorem C60.wr {cs : List BS} (h : C60 cs) : (wr (gd cs)).length ≤ 300 := by
  have h1 := wrL_60 (gd cs) fun x hx => ⟨nm4_len (h.l4 x hx).1, (h.l4 x hx).2⟩
  have := gd_length h.cnt
  have := h.cnt
  simp only [Vf.wr, List.length_append, leB_length]
  omega
theorem isP_gd {c2 c1 : List BS} (h2 : C60 c2) (h1 : C60 c1) : IsP (gd (ov c2 c1)) (gd c1) (gd c2) := by
  have h0 := (h2.ov h1).cnt
  have e1 := h1.cnt
  have e2 := h2.cnt
  refine ⟨fun i x hx => ?_, fun i x hi hx => ?_, by rw [gd_length h0, gd_length h1.cnt, gd_length h2.cnt, ov_length, Nat.max_comm]⟩
  · rw [gd_get h1.cnt] at hx
    obtain ⟨b, hb, rfl⟩ := Option.map_eq_some_iff.1 hx
    have hi := (List.getElem?_eq_some_iff.1 hb).1
    rw [gd_get h2.cnt]
    show fnd (gd (ov c2 c1)) (nmK i) = _
    rw [gd_fnd h0 (by omega), ov_get]
    cases c2[i]? with
    | none => simpa using hb
    | some y => rfl
  · rw [gd_get h2.cnt] at hx
    obtain ⟨b, hb, rfl⟩ := Option.map_eq_some_iff.1 hx
    have hi := (List.getElem?_eq_some_iff.1 hb).1
    show fnd (gd (ov c2 c1)) (nmK i) = some b
    rw [gd_fnd h0 (by omega), ov_get, hb]
theorem isP_self {cs : List BS} (h : C60 cs) : IsP (gd cs) (gd cs) [] := isP_gd (c2 := []) ⟨by simp, fun _ h => by cases h⟩ h
theorem isP_nil {cs : List BS} (h : C60 cs) : IsP (gd cs) [] (gd cs) := by
  have := isP_gd (c1 := []) h ⟨by simp, fun _ h => by cases h⟩
  rwa [show ov cs [] = cs by simp [ov]] at this
theorem Qs.new (n : Int) : Qs (Vm.new n) [] (min (max n 0) 1048576) 0 := ⟨rfl, rfl, rfl, rfl, rfl, List.Pairwise.nil⟩
/-- A commit of Good's files where there is much room. -/
theorem Qs.good {V : Vm} {n : Nat} {c1 c2 : List BS} (h : Qs V (gd c1) 5000 n) (h1 : C60 c1) (h2 : C60 c2) (hne : 1 ≤ c2.length) :
    ∃ V', Vf.cmt V (gd c2) = (0, V') ∧ Qs V' (gd (ov c2 c1)) 5000 (n + c2.length + 9) ∧ V'.since = [] := by
  have hu := h1.sm.used
  have hw := h2.wr
  have hs := sum_small (gd c2) (gd c1) fun x hx => (h2.l4 x hx).2
  have hl := gd_length h2.cnt
  have hc := h2.cnt
  obtain ⟨V', e, q, s⟩ := h.cmt (h2.chk hne) (h1.none (by decide)) (h1.none (by decide)) (by omega)
  rw [wths_gd c2 c1 h2.cnt h1.cnt, hl] at q
  exact ⟨V', e, q, s⟩

theorem wt_whole {l : FL} (h : Okl l) : wtS (begins l ++ (mids l ++ ends)) ≤ 200000 := by
  have h1 := wr_le h
  have h2 := h.szl.take l.length
  rw [List.take_length] at h2
  rw [wtS_app, wtS_app, mids, wtS_app]
  have e1 : wtS (begins l) = (7 + (wr l).length + 1) + (1 + ((4 + 0 + 1) + (1 + 0))) := rfl
  have e2 : wtS [St.f, .r mN, .f] = 1 + ((4 + 1) + (1 + 0)) := rfl
  have e3 : wtS ends = (7 + 1) + (1 + 0) := rfl
  omega
theorem wt_mid {l : FL} (h : Okl l) : wtS (mids l ++ ends) ≤ 200000 := by
  have := wt_whole h
  rw [wtS_app] at this
  omega
theorem Lim.cmt {V : Vm} {N : Nat} (h : Lim V N) (l : FL) : Lim (cmt V l).2 (N + 300000) := by
  unfold Vf.cmt
  by_cases h1 : chk l ≠ 0
  · rw [if_pos h1]; exact h.more (by omega)
  rw [if_neg h1]
  by_cases h2 : V.dead = true
  · rw [if_pos h2]; exact h.more (by omega)
  rw [if_neg h2]
  split
  · exact h.more (by omega)
  · have := wt_whole (chk_ok (by simpa using h1))
    exact (Lim.runs (R := (0, V)) _ h).more (by omega)
theorem Lim.rcv {V : Vm} {N : Nat} (h : Lim V N) : Lim (rcv V).2 (N + 300000) := by
  unfold Vf.rcv
  by_cases h2 : V.dead = true
  · rw [if_pos h2]; exact h.more (by omega)
  rw [if_neg h2]
  split
  · unfold agn
    by_cases h3 : rdOk ((fnd V.now jN).getD []) = true
    · rw [if_pos h3]
      split
      · have h4 : Okl (rdA ((fnd V.now jN).getD [])).1 := by
          unfold rdOk at h3
          exact chk_ok (of_decide_eq_true h3).2.2
        have := wt_mid h4
        exact (Lim.runs (R := (0, V)) _ h).more (by omega)
      · exact h.more (by omega)
    · rw [if_neg h3]; exact h.more (by omega)
  · split
    · exact (Lim.runs (R := (0, V)) ends h).more (by have : wtS ends = (7 + 1) + (1 + 0) := rfl; omega)
    · exact h.more (by omega)

/-- The files at p, B having been chosen at w0. -/
structure Vs (w0 w : World) (B p N : Nat) (V : Vm) : Prop where
  vp : Vp w B p V
  lim : Lim V N
  mo : Mo B p w0 w
abbrev Pl (B p : Nat) (g : Nat) : Prop := g < B ∧ g ≠ p
section
variable {w0 w : World} {B p N : Nat} {V : Vm} {A A2 : Option Addr} {n c n2 c2 : Nat} {l l2 : FL}
theorem Vs.new {w0 : World} {p : Nat} {n : Int} (h : Bx w0 p (bx0 (Vm.new n)) 72) : Vs w0 w0 w0.heap.size p 0 (Vm.new n) := ⟨Vp.fresh h h.lt (Nat.le_refl _), Lim.new n, Mo.refl _ _ _⟩
theorem Vs.block (h : Vs w0 w B p N V) (hB : B ≤ w0.heap.size) : ∀ g, Pl B p g → w.heap[g]? = w0.heap[g]? := fun g hg => h.mo.block g (by have := hg.1; omega) fun e => by
  rcases e with e | ⟨e, _⟩
  · exact hg.2 e
  · have := hg.1; omega
theorem Vs.fr (h : Vs w0 w B p N V) (hB : B ≤ w0.heap.size) (hF : Fr w0 (Pl B p) A n l) : Fr w (Pl B p) A n l := hF.keep (h.block hB)
theorem Vs.commit (h : Vs w0 w B p N V) (hB : B ≤ w0.heap.size) (hF : Fr w0 (Pl B p) A n l) (hn : n ≤ 1099511627776) (hnc : n ≤ c) (hN : N + 300000 ≤ 1099511627776) :
    Calls Try.prog 26 #[.pointer (some ⟨p, 0, none⟩), .slice A n c] w fun e w' => e = .returned (.int .i64 (cmt V l).1) ∧ Vs w0 w' B p (N + 300000) (cmt V l).2 :=
  (commit_any h.vp h.lim (h.fr hB hF) (fun g hg => ⟨by have := hg.1; have := h.mo.size; omega, hg.2, .inl hg.1⟩) hn hnc hN).mono fun _ _ ⟨h1, h2, h3⟩ => ⟨h1, h2, h.lim.cmt l, h.mo.trans h3⟩
theorem Vs.recover (h : Vs w0 w B p N V) (hN : N + 300000 ≤ 1099511627776) :
    Calls Try.prog 29 #[.pointer (some ⟨p, 0, none⟩)] w fun e w' => e = .returned (.int .i64 (rcv V).1) ∧ Vs w0 w' B p (N + 300000) (rcv V).2 :=
  (recover_any h.vp h.lim hN).mono fun _ _ ⟨h1, h2, h3⟩ => ⟨h1, h2, h.lim.rcv, h.mo.trans h3⟩
theorem Vs.below {w' : World} (h : Vs w0 w B p N V) (hb : Below w.heap.size w w') : Vs w0 w' B p N V := ⟨h.vp.below hb, h.lim, h.mo.trans (Mo.of hb)⟩
theorem Vs.isf (h : Vs w0 w B p N V) (hN : N ≤ 1099511627776) (hd : V.dead = false) (hB : B ≤ w0.heap.size) (hF : Fr w0 (Pl B p) A n l) (hF2 : Fr w0 (Pl B p) A2 n2 l2) (hf : Few100 l) (hf2 : Few100 l2) :
    Calls Try.prog 30 #[.pointer (some ⟨p, 0, none⟩), .slice A n c, .slice A2 n2 c2] w fun e w' => ∃ r : Bool, e = .returned (.bool r) ∧ (IsP V.now l l2 → r = true) ∧ Vs w0 w' B p N V := by
  have hs := h.mo.size
  refine (is_any h.vp h.lim hN hd ((h.fr hB hF).more fun g hg => by have := hg.1; omega) ((h.fr hB hF2).more fun g hg => by have := hg.1; omega) hf hf2).mono ?_
  rintro e w' ⟨r, h1, h2, h3⟩
  exact ⟨r, h1, h2, h.below h3⟩
theorem Vs.opsA (h : Vs w0 w B p N V) : Calls Try.prog 31 #[.pointer (some ⟨p, 0, none⟩)] w fun e w' => e = .returned (.int .i64 (V.ops : Int)) ∧ w = w' := ops_any h.vp
theorem Vs.toB {C : Nat} (h : Vs w0 w B p N V) (h1 : C ≤ B) (h2 : C ≤ p) (h3 : C ≤ w0.heap.size) : Below C w0 w := h.mo.below h1 h2 h3
end
end Go.Proofs.Ytpaaafdnkehmfaa.Vf
