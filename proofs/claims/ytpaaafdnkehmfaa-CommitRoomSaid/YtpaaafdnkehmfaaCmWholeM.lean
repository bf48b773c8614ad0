/- CommitWhole: the mathematics, and what its calls leave. No conditions. -/
import Derived.Test.YtpaaafdnkehmfaaCmTwiceW
namespace Go.Proofs.Ytpaaafdnkehmfaa.Vf
open Go.RowKit
set_option maxRecDepth 100000

/-- Behind a crash. -/
structure Jv (ca cb : List BS) (d : Bool) (V : Vm) : Prop where
  dead : V.dead = false
  since : V.since = []
  room : V.room = 5000
  stop : V.stop = 0
  all : d = true → NM (fun k => fnd (gd (ov cb ca)) k) V.fl
  any : Iv (fun k => fnd (gd ca) k) (gd cb) V.fl
section
variable {ca cb : List BS} {d : Bool} {V : Vm}
theorem tg_gd (h1 : C60 ca) (h2 : C60 cb) : tg (fun k => fnd (gd ca) k) (gd cb) = fun k => fnd (gd (ov cb ca)) k := by
  funext k
  rw [← wths_gd cb ca h2.cnt h1.cnt, fnd_wths k _ (asc_gd h1.cnt)]
  rfl
theorem cx_gd (h2 : C60 cb) (hne : 1 ≤ cb.length) : Cx (fun k => fnd (gd ca) k) (gd cb) := ⟨h2.chk hne, h2.l4, by have := h2.wr; omega⟩
/-- Files as they were at first. -/
structure J0 (ca : List BS) (V : Vm) : Prop where
  dead : V.dead = false
  since : V.since = []
  room : V.room = 5000
  fl : V.fl = gd ca
theorem J0.nm (h : J0 ca V) (h1 : C60 ca) : NM (fun k => fnd (gd ca) k) V.fl := by
  rw [h.fl]
  exact ⟨h1.sm, h1.none (by decide), fun _ _ _ => rfl⟩
/-- Ahead of the second commit. -/
theorem first_commit (h1 : C60 ca) : ∃ V : Vm, J0 ca V ∧ (0 < ca.length → cmt (Vm.new 5000) (gd ca) = (0, V)) ∧ (ca.length = 0 → V = Vm.new 5000) := by
  by_cases h : 0 < ca.length
  · obtain ⟨V1, e1, s1, t1⟩ := qsNew.good c60_nil h1 h
    rw [ov_nil] at s1
    exact ⟨V1, ⟨s1.dead, t1, s1.room, by rw [← now_nil t1]; exact s1.now⟩, fun _ => e1, fun e => by omega⟩
  · have : ca = [] := List.eq_nil_of_length_eq_zero (by omega)
    subst this
    exact ⟨Vm.new 5000, ⟨rfl, rfl, rfl, rfl⟩, fun h' => absurd h' h, fun _ => rfl⟩
theorem second_commit (h1 : C60 ca) (h2 : C60 cb) (hne : 1 ≤ cb.length) (h : J0 ca V) (s : Int) (ks : List Int) : ∃ d : Bool, ((cmt (V.stopAt s) (gd cb)).1 == 0) = d ∧ Jv ca cb d ((cmt (V.stopAt s) (gd cb)).2.crash ks) := by
  have ho := cmt_out (V := V.stopAt s) (cx_gd (ca := ca) h2 hne) h.dead h.room h.since (h.nm h1)
  rw [tg_gd h1 h2] at ho
  rcases ho with ⟨e, hd, _, hr, hP⟩ | ⟨e, _, hr, hI⟩
  · have hnm : NM (fun k => fnd (gd (ov cb ca)) k) ((cmt (V.stopAt s) (gd cb)).2.crash ks).fl := by
      show NM _ (rep _ ks _)
      rw [hP.2.2]
      simpa [rep] using hP.1
    exact ⟨true, by rw [e]; rfl, rfl, rfl, hr, rfl, fun _ => hnm, .inr (.inr (by rw [tg_gd h1 h2]; exact hnm))⟩
  · exact ⟨false, by rw [e]; rfl, rfl, rfl, hr, rfl, (fun e => by cases e), hI ks⟩
theorem rcv_nm {u : BS → Option BS} (hd : V.dead = false) (hr : V.room = 5000) (hs : V.since = []) (hf : NM u V.fl) (ks : List Int) : (rcv V).2.room = 5000 ∧ NM u (rep (rcv V).2.since ks (rcv V).2.fl) := by
  rcases rcvN_out hd hr hs hf with ⟨_, _, _, hr, hP⟩ | ⟨_, _, hr, hI⟩
  · refine ⟨hr, ?_⟩
    rw [hP.2.2]
    simpa [rep] using hP.1
  · exact ⟨hr, hI ks⟩
theorem Jv.step (h2 : C60 cb) (hne : 1 ≤ cb.length) (h : Jv ca cb d V) (s : Int) (ks : List Int) : Jv ca cb d ((rcv (V.stopAt s)).2.crash ks) := by
  have key : (rcv (V.stopAt s)).2.room = 5000 ∧ Iv (fun k => fnd (gd ca) k) (gd cb) (rep (rcv (V.stopAt s)).2.since ks (rcv (V.stopAt s)).2.fl) := by
    rcases h.any with hf | hf | hf
    · obtain ⟨a, b⟩ := rcv_nm (V := V.stopAt s) h.dead h.room h.since hf ks
      exact ⟨a, .inl b⟩
    · rcases rcvM_out (V := V.stopAt s) (cx_gd (ca := ca) h2 hne) h.dead h.room h.since hf with ⟨_, _, _, hr, hP⟩ | ⟨_, _, hr, hI⟩
      · refine ⟨hr, .inr (.inr ?_)⟩
        rw [hP.2.2]
        simpa [rep] using hP.1
      · exact ⟨hr, hI ks⟩
    · obtain ⟨a, b⟩ := rcv_nm (V := V.stopAt s) h.dead h.room h.since hf ks
      exact ⟨a, .inr (.inr b)⟩
  exact ⟨rfl, rfl, key.1, rfl, fun e => (rcv_nm (V := V.stopAt s) h.dead h.room h.since (h.all e) ks).2, key.2⟩
theorem nm_end {c : List BS} {W : Vm} (hc : C60 c) (h : NM (fun k => fnd (gd c) k) W.fl ∧ fnd W.fl jN = none ∧ W.since = []) : W.now = gd c := by
  rw [now_nil h.2.2]
  refine asc_ext h.1.sm.asc (asc_gd hc.cnt) fun k => ?_
  by_cases e1 : k = jN
  · rw [e1, h.2.1, hc.none (by decide)]
  · by_cases e2 : k = mN
    · rw [e2, h.1.m, hc.none (by decide)]
    · exact h.1.at_ k e1 e2
theorem Jv.last (h1 : C60 ca) (h2 : C60 cb) (hne : 1 ≤ cb.length) (h : Jv ca cb d V) : (rcv V).1 = 0 ∧ (rcv V).2.dead = false ∧ ((rcv V).2.now = gd (ov cb ca) ∨ (d = false ∧ (rcv V).2.now = gd ca)) := by
  have fin : ∀ {I : FL → Prop} {P : Vm → Prop}, Out I (V.stop = 0) P (rcv V) → (rcv V).1 = 0 ∧ (rcv V).2.dead = false ∧ P (rcv V).2 := fun ho => by
    rcases ho with ⟨e, hd, _, _, hP⟩ | ⟨_, hz, _⟩
    · exact ⟨e, hd, hP⟩
    · exact absurd h.stop hz
  cases d with
  | true =>
    obtain ⟨a, b, c⟩ := fin (rcvN_out h.dead h.room h.since (h.all rfl))
    exact ⟨a, b, .inl (nm_end (h2.ov h1) c)⟩
  | false =>
    rcases h.any with hf | hf | hf
    · obtain ⟨a, b, c⟩ := fin (rcvN_out h.dead h.room h.since hf)
      exact ⟨a, b, .inr ⟨rfl, nm_end h1 c⟩⟩
    · obtain ⟨a, b, c⟩ := fin (rcvM_out (cx_gd (ca := ca) h2 hne) h.dead h.room h.since hf)
      rw [tg_gd h1 h2] at c
      exact ⟨a, b, .inl (nm_end (h2.ov h1) c)⟩
    · rw [tg_gd h1 h2] at hf
      obtain ⟨a, b, c⟩ := fin (rcvN_out h.dead h.room h.since hf)
      exact ⟨a, b, .inl (nm_end (h2.ov h1) c)⟩
end
section
variable {w0 w : World} {B p N : Nat} {V : Vm} {A : Option Addr} {n c : Nat} {l : FL} {ks : List Int}
theorem Vs.stopf (h : Vs w0 w B p N V) (k : Int) (hk : -9223372036854775808 ≤ k ∧ k ≤ 9223372036854775807) : Calls Try.prog 27 #[.pointer (some ⟨p, 0, none⟩), .int .i64 k] w fun e w' => e = .returned (.tuple #[]) ∧ Vs w0 w' B p N (V.stopAt k) :=
  (stop_any h.vp k).mono fun _ _ ⟨h1, h2, h3⟩ => ⟨h1, h2, h.lim.stopAt hk, h.mo.trans h3⟩
theorem Vs.crashf {C : Nat} (h : Vs w0 w B p N V) (hN : N ≤ 274877906944) (hS : SeesV w0 C A n (ks.map (Value.int .i64))) (h1 : C ≤ B) (h2 : C ≤ p) (h3 : C ≤ w0.heap.size) : Calls Try.prog 20 #[.pointer (some ⟨p, 0, none⟩), .slice A n c] w fun e w' => e = .returned (.tuple #[]) ∧ Vs w0 w' B p N (V.crash ks) := by
  have hb := h.toB h1 h2 h3
  refine (crash_any h.vp h.lim hN ⟨by have := hS.len; rwa [List.length_map] at this, fun j x hx => ?_⟩).mono fun _ _ ⟨a1, a2, a3⟩ => ⟨a1, a2, h.lim.crash ks, h.mo.trans a3⟩
  obtain ⟨b, o, e, hbl, hc⟩ := hS.cell j (.int .i64 x) (by rw [List.getElem?_map, hx]; rfl)
  exact ⟨b, o, e, Nat.lt_of_lt_of_le hbl (Nat.le_trans h3 h.mo.size), by omega, .inl (by omega), (hb.cell (p := ⟨b, o + j, none⟩) hbl).trans hc⟩
theorem bx0_get {n : Int} {j : Nat} {v : Value} (h : (bx0 (Vm.new n))[j]? = some v) : (∀ s, v ≠ .string s) ∧ ∀ u : UInt8, v ≠ byt u := by
  have hm := List.mem_of_getElem? h
  simp only [bx0, bxV, List.mem_cons, List.not_mem_nil, or_false] at hm
  rcases hm with e | e | e | e | e | e | e | e | e <;> subst e <;> exact ⟨fun s h => (by cases h), fun u h => (by cases h)⟩
/-- Files lie elsewhere than the box. -/
theorem Fr.off {P : Nat → Prop} {m : Int} (h : Fr w P A n l) (hx : Bx w p (bx0 (Vm.new m)) 72) : Fr w (fun g => P g ∧ g ≠ p) A n l :=
  ⟨h.len, fun k x hk => by
    obtain ⟨g, o, Af, nf, cf, e, hp, h1, h2, h3, h4⟩ := h.at_ k x hk
    refine ⟨g, o, Af, nf, cf, e, ⟨hp, ?_⟩, h1, h2, ⟨h3.len, fun j u hu => ?_⟩, h4⟩
    · rintro rfl
      rw [hx.cells] at h1
      exact (bx0_get h1).1 _ rfl
    · obtain ⟨g', o', e', hp', hc⟩ := h3.at_ j u hu
      refine ⟨g', o', e', ⟨hp', ?_⟩, hc⟩
      rintro rfl
      rw [hx.cells] at hc
      exact (bx0_get hc).2 _ rfl⟩
end
end Go.Proofs.Ytpaaafdnkehmfaa.Vf
