/- TreeOwn, walked. Conditions: none. -/
import Derived.Test.YtkhjpmefekonhaaMgPt
import Derived.Test.YtkhjpmefekonhaaMgRt
import Derived.Test.YtkhjpmefekonhaaMgOwn
import Derived.Outline
namespace Go.Proofs.Ytkhjpmefekonhaa.Pt
open Go.RowKit Go.Proofs.Ytkhjpmefekonhaa.Jd Go.Proofs.Ytkhjpmefekonhaa.Cl
set_option maxRecDepth 100000

/-- Names of 30 bytes at most: how long the text is. -/
theorem short_sep : ∀ {t : Tr}, Short t → (Tr.sepB 1 t).length ≤ 130 * t.size
  | .nil, _ => Nat.zero_le _
  | .cons s k r, ⟨h1, h2, h3⟩ => by
    have ihk := short_sep h2
    have ihr := short_sep h3
    have hk : k.body.length ≤ (Tr.sepB 1 k).length := by cases k with
      | nil => simp [Tr.sepB, Tr.body]
      | cons _ _ _ => simp only [Tr.sepB, List.length_append]; omega
    have hq := quoL_le s.data.toList
    have hs : s.data.toList.length = s.size := rfl
    rw [show (1 : Nat) = 0 + 1 from rfl, sepB_cons, sepB_succ]
    simp only [List.length_append, List.length_cons, List.length_nil, quo, Tr.text, Tr.size]
    omega
theorem short_text {t : Tr} (h : Short t) : t.text.length ≤ 130 * t.size + 2 := by
  have := short_sep h
  have hk : t.body.length ≤ (Tr.sepB 1 t).length := by cases t with
    | nil => simp [Tr.sepB, Tr.body]
    | cons _ _ _ => simp only [Tr.sepB, List.length_append]; omega
  simp only [Tr.text, List.length_append, List.length_cons, List.length_nil]
  omega
theorem putT_short {x : Tr} (hx : Short x) : ∀ {ps : List ByteArray} {t : Tr}, (∀ s ∈ ps, s.size ≤ 30) → Short t → Short (putT t ps x)
  | [], _, _, _ => hx
  | p :: ps, t, hp, ht => withT_short (hp p (by simp)) (putT_short hx (fun s hs => hp s (by simp [hs])) (short_kid ht)) ht
theorem withoutT_short {name : ByteArray} : ∀ {t : Tr}, Short t → Short (withoutT t name)
  | .nil, _ => trivial
  | .cons s k r, ⟨h1, h2, h3⟩ => by
    rcases cases3 s name with c1 | ⟨c1, c2⟩ | ⟨c1, c2, _⟩
    · rw [withoutT_lt c1]; exact ⟨h1, h2, withoutT_short h3⟩
    · rw [withoutT_eq c1 c2]; exact h3
    · rw [withoutT_gt c1 c2]; exact ⟨h1, h2, h3⟩
theorem dropP_short : ∀ {ps : List ByteArray} {t : Tr}, (∀ s ∈ ps, s.size ≤ 30) → Short t → Short (dropP t ps)
  | [], _, _, _ => trivial
  | [p], t, _, ht => by
    rw [dropP]
    split
    · exact withoutT_short ht
    · exact ht
  | p :: q :: ps, t, hp, ht => by
    rw [dropP]
    split
    · exact withT_short (hp p (by simp)) (dropP_short (fun s hs => hp s (by simp only [List.mem_cons] at hs ⊢; exact .inr hs)) (short_kid ht)) ht
    · exact ht

/-- Of one's own between two bounds; new behind a bound. -/
def MineT (base T : Nat) (w : World) (b : Nat) : Prop := Mine base w b ∧ b < T
def NewT (T : Nat) (w : World) (b : Nat) : Prop := T ≤ b ∧ b < w.heap.size
theorem mineT_row {base T b : Nat} {w : World} (h : MineT base T w b) : ∃ (cs : Array Value) (E : TypeId), w.heap[b]? = some (Obj.cells cs E (0, 0)) := h.1.2
theorem mineT_keep {base T n : Nat} {w w' : World} {A : Option Addr} {t : Tr} (h : HoldsP w (MineT base T w) A n t) (hb : Below w.heap.size w w') : HoldsP w' (MineT base T w') A n t :=
  (h.keep fun _ _ hm => hb.cell hm.1.lt).more fun _ hm => ⟨hm.1.below hb, hm.2⟩
theorem newT_keep {T n : Nat} {w w' : World} {A : Option Addr} {t : Tr} (h : HoldsP w (NewT T w) A n t) (hb : Below w.heap.size w w') : HoldsP w' (NewT T w') A n t :=
  (h.keep fun _ _ hm => hb.cell hm.2).more fun _ hm => ⟨hm.1, Nat.lt_of_lt_of_le hm.2 hb.size⟩
theorem Spo.new {base T n : Nat} {w w' : World} {A : Option Addr} {t : Tr} (hs : Spo (MineT base T w) w w') (h : HoldsP w (NewT T w) A n t) : HoldsP w' (NewT T w') A n t :=
  (h.keep fun b o hm => World.cell?_of_block (a := ⟨b, o, none⟩) (hs.out b (fun hp => by have := hm.1; have := hp.2; omega))).more fun _ hm => ⟨hm.1, by rw [hs.size]; exact hm.2⟩
theorem Spo.under {base T B : Nat} {w w' : World} (hs : Spo (MineT base T w) w w') (hB : B ≤ base) : Below B w w' :=
  ⟨hs.os, hs.tape, hs.output, by rw [hs.size]; exact Nat.le_refl _, fun k hk => hs.out k (fun hp => by have := hp.1.1; omega)⟩
def OkM (W : World) (u : Tr) (e : Ending) (w' : World) : Prop := ∃ A' n' c', e = .returned (.slice A' n' c') ∧ HoldsP w' (Mine W.heap.size w') A' n' u ∧ (n' ≤ c' ∧ c' ≤ maxLen) ∧ Below W.heap.size W w'
theorem makeM_ok {A : Option Addr} {n c : Nat} (r : Tr) (D E : Int) (B : Nat) {W : World} (h : Holds W B A n r) (hB : B ≤ W.heap.size) (hc : n ≤ c ∧ c ≤ maxLen) (hz : r.size < 200) (h1 : 0 ≤ D) (h2 : D ≤ 100) (h3 : 0 ≤ E) (h4 : E ≤ 100) {u : Tr} (hu : u = r.makeT D.toNat D.toNat E.toNat .nil) : Calls Try.prog 14 #[.slice A n c, .int .i64 D, .int .i64 E] W (OkM W u) := by
  subst hu
  exact (makeM_any r.size r A n c B D E W (Nat.le_refl _) h hB hc.1 hc.2 (by omega) h1 h2 h3 h4).mono fun _ _ ⟨A', n', c', e, h1, h2, h3, h4⟩ => ⟨A', n', c', e, h1, ⟨h2, h3⟩, h4⟩
def NEW : ByteArray := ⟨#[110, 101, 119]⟩
theorem new_holds (W : World) : HoldsP (W.alloc (Obj.cells #[.string NEW, .slice none 0 0] 32)) (fun b => b < W.heap.size + 1) (some ⟨W.heap.size, 0, none⟩) 1 (.cons NEW .nil .nil) := by
  refine ⟨W.heap.size, 0, rfl, by omega, ?_, ⟨none, 0, 0, ?_, Nat.le_refl _, Nat.zero_le _, rfl⟩, 0, rfl, rfl⟩
  · rw [cell_of_row _ _ _ _ _ _ (heap_alloc_new W _)]; rfl
  · rw [cell_of_row _ _ _ _ _ _ (heap_alloc_new W _)]; rfl
theorem new_ok (W : World) : OkT (W.alloc (Obj.cells #[.string NEW, .slice none 0 0] 32)) (some ⟨W.heap.size, 0, none⟩) 1 1 (.cons NEW .nil .nil) :=
  ⟨(new_holds W).to fun b hb => by simpa using hb, Nat.le_refl _, by simp [maxLen]⟩
def OkNw (W : World) (t : Tr) (e : Ending) (w' : World) : Prop := ∃ A' n' c', e = .returned (.slice A' n' c') ∧ HoldsP w' (NewT W.heap.size w') A' n' t ∧ Below W.heap.size W w'
section
variable {W : World} {A A2 Ap : Option Addr} {n c n2 c2 np cp : Nat} {t u : Tr} {ps : List ByteArray}
theorem putN_ok (h : OkT W A n c t) (h2 : OkT W A2 n2 c2 u) (hp : Pth W Ap np cp ps) (ha : AscD t) (hz : t.size ≤ 1000000) (hz2 : u.size ≤ 1000000) : Calls Try.prog 22 #[.slice A n c, .slice Ap np cp, .slice A2 n2 c2] W (OkNw W (putT t ps u)) :=
  (put_any t u ps A A2 Ap n c n2 c2 np cp W h.holds h2.holds hp.sees ha (by omega) (by omega) (by have := hp.few; omega)).mono fun _ _ ⟨A', n', c', e, h1, h2, h3, h4⟩ => ⟨A', n', c', e, h3, h4⟩
theorem dropN_ok (h : OkT W A n c t) (hp : Pth W Ap np cp ps) (ha : AscD t) (hz : t.size ≤ 1000000) : Calls Try.prog 24 #[.slice A n c, .slice Ap np cp] W (OkNw W (dropP t ps)) :=
  (drop_any t ps A Ap n c np cp W h.holds hp.sees hp.cap ha (by omega) (by have := hp.few; omega)).mono fun _ _ ⟨A', n', c', e, h1, h2, h3, h4⟩ => ⟨A', n', c', e, h3, h4⟩
theorem textN_ok {T : Nat} (c : Nat) (h : HoldsP W (NewT T W) A n t) (hs : Short t) (hz : t.size ≤ 1000000) {V : ByteArray} (hV : ba t.text = V) : Calls Try.prog 18 #[.slice A n c] W fun e w' => e = .returned (.string V) ∧ ∃ q, w' = W.drewN q := by
  subst hV
  exact rtext_any t.size t A n c W.heap.size W (Nat.le_refl _) (h.to fun _ hm => hm.2) (Nat.le_refl _) (by omega) (by have := short_text hs; omega)
theorem newT_drew {T : Nat} (h : HoldsP W (NewT T W) A n t) (q : Nat) : HoldsP (W.drewN q) (NewT T (W.drewN q)) A n t := newT_keep h (below_drewN (Below.refl _ _) q)
end

set_option maxHeartbeats 4000000 in
theorem treeOwn_walk (r : Tr) (A An : Option Addr) (n nn c cn : Nat) (ns : List Int) (w : World) (h : Holds w w.heap.size A n r) (hc : n ≤ c) (hm : c ≤ maxLen) (hr : r.len ≤ 140737488351232 ∧ r.Fit)
    (hn : SeesV w w.heap.size An nn (ns.map (Value.int .i64))) (hnb : ∀ x ∈ ns, -9223372036854775808 ≤ x ∧ x ≤ 9223372036854775807) :
    Calls Try.prog 8 #[.slice A n c, .slice An nn cn] w fun e w' => e = .returned (.bool true) ∧ Below w.heap.size w w' := by
  have hK := known_any w
  have hF := fun (W : World) (hW : Below w.heap.size w W) => few_any r A n c w.heap.size W (h.below hW) hW.size (by rw [h.len]; exact hr.1) (fit_low hr.2)
  by_cases hs : r.count n 200 < 200
  case neg =>
    rw [decide_eq_false hs] at hF
    have HF := Lib.hid hF
    clear hF hr h hs
    go_enter Try.func8, Try.ntmps8
    go_wp2_with fail
    refine hK.mono ?_
    rintro e w1 ⟨rfl, hb1⟩
    go_wp2_with fail
    refine (HF.out w1 hb1).mono ?_
    rintro e _ ⟨rfl, rfl⟩
    go_wp2_with fail
    go_ret
    exact ⟨rfl, hb1⟩
  rw [decide_eq_true hs] at hF
  have hrz := few_yes h.len hs
  obtain ⟨t, ht⟩ : ∃ t, t = r.makeT (6 : Int).toNat (6 : Int).toNat (4 : Int).toNat .nil := ⟨_, rfl⟩
  have hM := fun (W : World) (hW : Below w.heap.size w W) => makeM_ok (c := c) r 6 4 w.heap.size (h.below hW) hW.size ⟨hc, hm⟩ hrz (by omega) (by omega) (by omega) (by omega) ht
  have hta : AscD t := by rw [ht]; exact makeT_ascD _ _ _ _ .nil trivial
  have hts : Short t := by rw [ht]; exact makeT_short _ _ _ _ .nil trivial
  have htz : t.size ≤ 200 := by rw [ht]; have := makeT_size (6 : Int).toNat r (6 : Int).toNat (4 : Int).toNat .nil; simp only [Tr.size] at this; omega
  have HF := Lib.hid hF
  have HM := Lib.hid hM
  have HN := Lib.hid hn
  clear hF hM ht hs hrz h hr hn
  go_enter Try.func8, Try.ntmps8
  go_wp2_with fail
  refine hK.mono ?_
  rintro e w1 ⟨rfl, hb1⟩
  go_wp2_with fail
  refine (HF.out w1 hb1).mono ?_
  rintro e _ ⟨rfl, rfl⟩
  go_wp2_with fail
  refine (HM.out w1 hb1).mono ?_
  rintro e w2 ⟨At, nt, ct, rfl, ot, hcp, hb⟩
  have hB := hb1.trans (hb.mono hb1.size)
  have HM2 : Hid (HoldsP w2 (MineT w1.heap.size w2.heap.size w2) At nt t) := Lib.hid (ot.more fun _ hm => ⟨hm, hm.lt⟩)
  have HT : Hid (OkT w2 At nt ct t) := Lib.hid ⟨ot.to fun _ hm => hm.lt, hcp⟩
  have HB1 := Lib.hid hb1
  clear ot
  go_wp2_with fail
  (with_reducible refine (path_ok HT.out (seesV_more (HN.out.below hB) hB.size) hnb hts (by omega)).mono ?_)
  rintro e w3 ⟨Ap, kp, cp, ps, rfl, op, hp30, hb⟩
  replace hB := hB.trans (hb.mono hB.size)
  have HT2 := Lib.hid hb.size
  replace HT := Lib.hid (HT.out.below hb)
  replace HM2 := Lib.hid (mineT_keep HM2.out hb)
  have HP := Lib.hid op
  clear op
  have Hpl := Lib.hid HP.out.len
  have Hnl := Lib.hid HT.out.holds.len
  rcases Nat.eq_zero_or_pos kp with h0 | h0
  · subst h0
    go_wp2_with fail
    go_ret
    exact ⟨rfl, hB⟩
  have hk1 : ((kp : Int) == 0) = false := by simp; omega
  have hk1' : ¬ (kp : Int) = 0 := by omega
  rcases Nat.eq_zero_or_pos nt with g0 | g0
  · subst g0
    go_wp2_with fail
    go_ret
    exact ⟨rfl, hB⟩
  have hk2 : ((nt : Int) == 0) = false := by simp; omega
  have hk2' : ¬ (nt : Int) = 0 := by omega
  clear h0 g0
  have hpf := HP.out.few
  obtain ⟨a, ha⟩ : ∃ a, a = putT t ps (.cons NEW .nil .nil) := ⟨_, rfl⟩
  obtain ⟨d, hd⟩ : ∃ d, d = dropP t ps := ⟨_, rfl⟩
  have haz : a.size ≤ 2000 := by rw [ha]; have h1 := putT_size (x := .cons NEW .nil .nil) ps t 200 htz; have h2 := mul_few (b := 200) (N := 200) hpf (Nat.le_refl _); have h3 : (Tr.cons NEW .nil .nil).size = 1 := rfl; omega
  have hdz : d.size ≤ 2000 := by rw [hd]; have h1 := dropP_size ps t 200 htz; have h2 := mul_few (b := 200) (N := 200) hpf (Nat.le_refl _); omega
  have has : Short a := by rw [ha]; exact putT_short (show Short (.cons NEW .nil .nil) from ⟨by decide, trivial, trivial⟩) hp30 hts
  have hds : Short d := by rw [hd]; exact dropP_short hp30 hts
  obtain ⟨V1, hV1⟩ : ∃ v, ba a.text = v := ⟨_, rfl⟩
  obtain ⟨V2, hV2⟩ : ∃ v, ba d.text = v := ⟨_, rfl⟩
  have hbA : Below w3.heap.size w3 (w3.alloc (Obj.cells #[.string NEW, .slice none 0 0] 32)) := (Below.refl _ _).alloc (Nat.le_refl _) _
  have hPut := putN_ok (HT.out.below hbA) (new_ok w3) (HP.out.below hbA) hta (by omega) (by decide)
  rw [← ha] at hPut
  have HPut := Lib.hid hPut
  have HD := fun (W : World) (hW : OkT W At nt ct t) (hP : Pth W Ap kp cp ps) => dropN_ok hW hP hta (by omega)
  rw [← hd] at HD
  replace HD := Lib.hid HD
  have HV1 := Lib.hid hV1
  have HV2 := Lib.hid hV2
  have HT3 := Lib.hid (HT.out.below hbA)
  have HM3 := Lib.hid (mineT_keep HM2.out hbA)
  have HP3 := Lib.hid (HP.out.below hbA)
  have hB3 := hB.trans (hbA.mono hB.size)
  have HT4 := Lib.hid (Nat.le_trans HT2.out hbA.size)
  unfold NEW at HPut HT3 HM3 HP3 hB3 HT4
  clear ha hd hV1 hV2 hPut hbA HT HM2 HP hB hb HT2
  go_wp2_with fail
  (with_reducible refine (HPut.out).mono ?_)
  rintro e w5 ⟨Aa, na, ca, rfl, oa, hb⟩
  have hB5 := hB3.trans (hb.mono hB3.size)
  have HT5 := Lib.hid (HT3.out.below hb)
  have HP5 := Lib.hid (HP3.out.below hb)
  have HM5 := Lib.hid (mineT_keep HM3.out hb)
  have HA5 : Hid (HoldsP w5 (NewT w2.heap.size w5) Aa na a) := Lib.hid (oa.more fun _ hm => ⟨Nat.le_trans HT4.out hm.1, hm.2⟩)
  have HS5 := Lib.hid (Nat.le_trans HT4.out hb.size)
  clear oa hb hB3 HPut HT3 HP3 HM3 HT4
  go_wp2_with fail
  (with_reducible refine (HD.out w5 HT5.out HP5.out).mono ?_)
  rintro e w6 ⟨Ad, nd, cd, rfl, od, hb⟩
  have hB6 := hB5.trans (hb.mono hB5.size)
  have HM6 := Lib.hid (mineT_keep HM5.out hb)
  have HA6 := Lib.hid (newT_keep HA5.out hb)
  have HD6 : Hid (HoldsP w6 (NewT w2.heap.size w6) Ad nd d) := Lib.hid (od.more fun _ hm => ⟨Nat.le_trans HS5.out hm.1, hm.2⟩)
  clear od hb hB5 HD HT5 HP5 HM5 HA5 HS5
  go_wp2_with fail
  (with_reducible refine (textN_ok ca HA6.out has (by omega) HV1.out).mono ?_)
  rintro e _ ⟨rfl, q1, rfl⟩
  go_wp2_with fail
  (with_reducible refine (textN_ok cd (newT_drew HD6.out q1) hds (by omega) HV2.out).mono ?_)
  rintro e _ ⟨rfl, q2, rfl⟩
  have hbq : Below w6.heap.size w6 ((w6.drewN q1).drewN q2) := below_drewN (below_drewN (Below.refl _ _) _) _
  have hB7 := hB6.trans (hbq.mono hB6.size)
  have HA7 := Lib.hid (newT_drew (newT_drew HA6.out q1) q2)
  have HD7 := Lib.hid (newT_drew (newT_drew HD6.out q1) q2)
  have HM7 := Lib.hid (mineT_keep HM6.out hbq)
  clear hbq HA6 HD6 HM6 hB6
  generalize (w6.drewN q1).drewN q2 = w7 at hB7 HA7 HD7 HM7 ⊢
  go_wp2_with fail
  (with_reducible refine (spoil_any t.size (MineT w1.heap.size w2.heap.size w7) t At nt ct w7 (Nat.le_refl _) HM7.out (fun _ hm => mineT_row hm) (by omega)).mono ?_)
  rintro e w8 ⟨⟨v8, rfl⟩, hS⟩
  have hB8 := hB7.trans (hS.under HB1.out.size)
  have HA8 := Lib.hid (hS.new HA7.out)
  have HD8 := Lib.hid (hS.new HD7.out)
  have he1 : (V1.toList == V1.toList) = true := by simp
  have he2 : (V2.toList == V2.toList) = true := by simp
  clear hS hB7 HA7 HD7 HM7
  go_wp2_with fail
  (with_reducible refine (textN_ok ca HA8.out has (by omega) HV1.out).mono ?_)
  rintro e _ ⟨rfl, q3, rfl⟩
  go_wp2_with fail
  (with_reducible refine (textN_ok cd (newT_drew HD8.out q3) hds (by omega) HV2.out).mono ?_)
  rintro e _ ⟨rfl, q4, rfl⟩
  go_wp2_with fail
  go_ret
  exact ⟨rfl, below_drewN hB8 _⟩
end Go.Proofs.Ytkhjpmefekonhaa.Pt
