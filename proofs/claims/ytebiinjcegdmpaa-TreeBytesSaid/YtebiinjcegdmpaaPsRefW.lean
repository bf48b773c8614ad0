/- The reference's parser, walked. Conditions: at most 13 deep, at most 400 edges so far. -/
import Derived.Test.YtebiinjcegdmpaaPsRef
import Derived.Test.YtebiinjcegdmpaaPthMath
import Derived.Outline
namespace Go.Proofs.Ytebiinjcegdmpaa.Ps
open Go.RowKit Go.Proofs.Ytebiinjcegdmpaa.Jd Go.Proofs.Ytebiinjcegdmpaa.Cl
set_option maxRecDepth 100000

def PsR (w : World) (g h : Nat) (D : Dat) (O : Out) (ce : Int) (e : Ending) (w' : World) : Prop :=
  ∃ (A : Option Addr) (n c : Nat), e = .returned (.slice A n c) ∧ (O.2.2.2 = 0 → HoldsP w' (fun b => w.heap.size ≤ b ∧ b < w'.heap.size) A n O.1 ∧ n ≤ c ∧ c ≤ maxLen) ∧ Prs w' g h O.2.2.1 ce ∧ Rfs D w' h O.2.1 O.2.2.2 ∧ Twb w w' g h
theorem prv_snoc {t : Tr} {s : ByteArray} {k : Tr} : prv (appT t (.cons s k .nil)) (t.len + 1) = some s := by
  rw [prv, if_neg (by omega), Nat.add_sub_cancel]
  induction t with
  | nil => rfl
  | cons s0 k0 r0 _ ih => exact ih
def RelO (T o : Out) (acc : Tr) : Prop := T.2 = o.2 ∧ (o.2.2.2 = 0 → T.1 = appT acc o.1)

set_option maxHeartbeats 4000000 in
theorem ptree_any (F : Nat) : ∀ (d m : Nat) (ce : Int) (l : List UInt8) (D : Dat) (g h : Nat) (w : World), 14 ≤ F + d → d ≤ 13 → m ≤ 400 → Prs w g h m ce → Rfs D w h l 0 → h < g →
    Calls Try.prog 39 #[.pointer (some ⟨g, 0, none⟩), .int .i64 (d : Nat)] w (PsR w g h D (psT F d m l) ce) := by
  induction F with
  | zero => intro d m ce l D g h w hF hd; omega
  | succ F ih =>
    intro d m ce l D g h w hF hd hm hp hr hgh
    obtain ⟨v0, l1, e1, hv0⟩ : ∃ v0 l1 e1, rdStep 1 l 0 = (v0, l1, e1) := ⟨_, _, _, rfl⟩
    obtain ⟨v1, l2, e2, hv1⟩ : ∃ v1 l2 e2, rdStep 1 l1 e1 = (v1, l2, e2) := ⟨_, _, _, rfl⟩
    have hb0 : v0 < 256 := by have := rdStep_lt 1 l 0; rw [hv0] at this; exact this
    have hb1 : v1 < 256 := by have := rdStep_lt 1 l1 e1; rw [hv1] at this; exact this
    have hO : psT (F + 1) d m l = if e2 ≠ 0 then (.nil, l2, m, e2) else psK (psT F (d + 1)) d (v0 + 256 * v1) none m l2 := by
      rw [psT, hv0]
      simp only [hv1]
    rw [hO]
    have hR0 := rbyte_any h l 0 w hr
    rw [hv0] at hR0
    have hR1 := fun (W : World) (hW : Rfs D W h l1 e1) => rbyte_any h l1 e1 W hW
    rw [hv1] at hR1
    have HR0 := Lib.hid hR0
    have HR1 := Lib.hid hR1
    have hc0 := hp.c0
    have hglt := hp.lt
    have hne : g ≠ h := by omega
    have HP := Lib.hid hp
    obtain ⟨n, hn⟩ : ∃ n, n = v0 + 256 * v1 := ⟨_, rfl⟩
    have hnn : (v0 : Int) + 256 * (v1 : Int) = (n : Int) := by omega
    have hnb : n ≤ 65535 := by omega
    have hw1 : IntKind.i64.wrap (256 * (v1 : Int)) = 256 * (v1 : Int) := IntWalk.i64_in _ (by omega)
    have hw2 : IntKind.i64.wrap ((v0 : Int) + 256 * (v1 : Int)) = (n : Int) := by rw [hnn]; exact IntWalk.i64_in _ (by omega)
    rw [← hn]
    obtain ⟨T, hT⟩ : ∃ T, T = (if e2 ≠ 0 then (Tr.nil, l2, m, e2) else psK (psT F (d + 1)) d n none m l2) := ⟨_, rfl⟩
    rw [← hT]
    have HT := Lib.hid hT
    have He2 := Lib.hid (Classical.em (e2 = 0))
    clear hT
    clear hv0 hv1 hO hR0 hR1 hp hr hn hnn
    go_enter Try.func39, Try.ntmps39
    go_wp2_with fail
    (with_reducible refine HR0.out.mono ?_)
    rintro e w1 ⟨rfl, hr1, hg1⟩
    have hp1 := HP.out.same (hg1.block g hglt (fun e => hne (by injection e)))
    have hc1 := hp1.c0
    have ht1 := (Twb.refl w g h).grown hg1
    have HQ1 := Lib.hid hp1
    have HS1 := Lib.hid hr1
    clear hp1 hr1 hg1 HP HR0
    go_wp2_with fail
    (with_reducible refine (HR1.out w1 HS1.out).mono ?_)
    rintro e w2 ⟨rfl, hr2, hg2⟩
    have hp2 := HQ1.out.same (hg2.block g HQ1.out.lt (fun e => hne (by injection e)))
    have ht2 := ht1.grown hg2
    have HQ2 := Lib.hid hp2
    have HS2 := Lib.hid hr2
    clear hp2 hr2 hg2 ht1 HQ1 HS1 HR1 hc1 hc0
    go_wp2_with fail
    by_cases he2 : e2 = 0
    case neg =>
      have hT := HT.out
      rw [if_pos he2] at hT
      subst hT
      have hc2 := HQ2.out.c0
      have ht := fun (W : World) (hW : Rfs D W h l2 e2) => rfText_any h l2 e2 W hW
      unfold txStep at ht
      rw [rdStep_err he2] at ht
      simp only [txNext_err he2] at ht
      have HTx := Lib.hid ht
      have He := Lib.hid he2
      clear ht
      rcases Nat.eq_zero_or_pos n with hn0 | hn0
      · subst hn0
        go_loopw [6, 7] (fun a i wr => a = .slice none 0 0 ∧ i = .int .i64 0 ∧ Hid (wr = w2)) (fun _ _ _ => 0)
        case atStart => exact ⟨rfl, rfl, Lib.hid rfl⟩
        case round =>
          obtain ⟨rfl, rfl, HW⟩ := hrel
          go_wp2_with fail
          go_ret
          exact ⟨none, 0, 0, rfl, fun h0 => absurd h0 He.out, by rw [HW.out]; exact HQ2.out, by rw [HW.out]; exact HS2.out, by rw [HW.out]; exact ht2⟩
      · have hn1 : (0 : Int) < (n : Int) := by omega
        go_loopw [6, 7] (fun a i wr => a = .slice none 0 0 ∧ i = .int .i64 0 ∧ Hid (wr = w2)) (fun _ _ _ => 0)
        case atStart => exact ⟨rfl, rfl, Lib.hid rfl⟩
        case round =>
          obtain ⟨rfl, rfl, HW⟩ := hrel
          have hc2' : wr.cell? ⟨g, 0, none⟩ = some (.pointer (some ⟨h, 0, none⟩)) := by rw [HW.out]; exact hc2
          have HS3 : Hid (Rfs D wr h l2 e2) := Lib.hid (by rw [HW.out]; exact HS2.out)
          go_wp2_with fail
          (with_reducible refine (HTx.out wr HS3.out).mono ?_)
          rintro e w3 ⟨rfl, hr3, hg3⟩
          have hp3 : Prs w3 g h m ce := (show Prs wr g h m ce by rw [HW.out]; exact HQ2.out).same (hg3.block g (by rw [HW.out]; exact HQ2.out.lt) (fun e => hne (by injection e)))
          have hc3 := hp3.c0
          have hr3c := Rfs.c2 hr3
          have he3 : (e2 != 0) = true := by simpa using He.out
          have HP3 := Lib.hid hp3
          have HR3 := Lib.hid hr3
          have ht3 : Twb w w3 g h := Twb.grown (by rw [HW.out]; exact ht2) hg3
          clear hp3 hr3 hg3
          go_wp2_with fail
          go_ret
          exact ⟨none, 0, 0, rfl, fun h0 => absurd h0 He.out, HP3.out, HR3.out, ht3⟩
    subst he2
    have hT := HT.out
    rw [if_neg (by simp)] at hT
    have HT2 := Lib.hid hT
    clear hT HT He2
    go_loopw [6, 7] (fun a i wr => ∃ (k : Nat) (A : Option Addr) (c : Nat) (acc : Tr) (vs : List Value) (m' : Nat) (l' : List UInt8), k ≤ n ∧ i = .int .i64 k ∧ a = .slice A k c ∧ Hid (Edg wr w.heap.size w.heap.size A k c acc vs) ∧ m' ≤ 400 ∧ Hid (Prs wr g h m' ce) ∧ Hid (Rfs D wr h l' 0) ∧ Hid (Twb w wr g h) ∧ Hid (RelO T (psK (psT F (d + 1)) d (n - k) (prv acc k) m' l') acc)) (fun _ i _ => n - (intOf i).toNat)
    case atStart => exact ⟨0, none, 0, .nil, [], m, l2, Nat.zero_le _, rfl, rfl, Lib.hid (Edg.nil _ _ _), hm, HQ2, HS2, Lib.hid ht2, Lib.hid ⟨by rw [HT2.out]; rfl, fun _ => by rw [HT2.out]; rfl⟩⟩
    case round =>
      obtain ⟨k, A, c, acc, vs, m', l', hk, rfl, rfl, HE, hm', HP, HR, HW, HRel⟩ := hrel
      clear HQ2 HS2 ht2 HT2
      have hc0 := HP.out.c0
      by_cases hlt : k < n
      case neg =>
        obtain rfl : k = n := by omega
        have hrel := HRel.out
        rw [Nat.sub_self, psK] at hrel
        obtain ⟨r1, r2⟩ := hrel
        have r3 := r2 rfl
        rw [appT_nil] at r3
        have R1 := Lib.hid r1
        have R3 := Lib.hid r3
        clear hlt r1 r2 r3 HRel
        go_wp2_with fail
        go_ret
        exact ⟨A, k, c, rfl, fun _ => ⟨by rw [R3.out]; exact HE.out.holdsP (Nat.le_refl _), HE.out.cap⟩, by rw [R1.out]; exact HP.out, by rw [R1.out]; exact HR.out, HW.out⟩
      have hkn : (k : Int) < (n : Int) := by omega
      have hk0 : (0 : Int) ≤ (k : Int) := by omega
      have hrel := HRel.out
      obtain ⟨i, hi⟩ : ∃ i, n - k = i + 1 := ⟨n - k - 1, by omega⟩
      have hi2 : n - (k + 1) = i := by omega
      obtain ⟨tx, l3, ex, htx⟩ : ∃ tx l3 ex, txStep l' 0 = (tx, l3, ex) := ⟨_, _, _, rfl⟩
      rw [hi, psK, htx] at hrel
      simp only at hrel
      have HTx := fun (W : World) (hW : Rfs D W h l' 0) => rfText_any h l' 0 W hW
      rw [htx] at HTx
      replace HTx := Lib.hid HTx
      obtain ⟨s, hs⟩ : ∃ s : ByteArray, s = ⟨tx.toArray⟩ := ⟨_, rfl⟩
      rw [← hs] at hrel HTx
      have Hi2 := Lib.hid hi2
      have Hlt := Lib.hid hlt
      clear HRel hi hi2 htx hs hlt
      by_cases hex : ex = 0
      case neg =>
        rw [if_pos hex] at hrel
        have R1 := Lib.hid hrel.1
        have Hex := Lib.hid hex
        have hexb : (ex != 0) = true := by simpa using hex
        clear hrel hex
        go_wp2_with fail
        (with_reducible refine (HTx.out wr HR.out).mono ?_)
        rintro e w3 ⟨rfl, hr3, hg3⟩
        have hp3 := HP.out.same (hg3.block g HP.out.lt (fun e => hne (by injection e)))
        have hc3 := hp3.c0
        have hr3c := Rfs.c2 hr3
        have HP3 := Lib.hid hp3
        have HR3 := Lib.hid hr3
        have HW3 := Lib.hid (HW.out.grown hg3)
        clear hp3 hr3 hg3
        go_wp2_with fail
        go_ret
        exact ⟨none, 0, 0, rfl, fun h0 => absurd (by rw [R1.out] at h0; exact h0) Hex.out, by rw [R1.out]; exact HP3.out, by rw [R1.out]; exact HR3.out, HW3.out⟩
      subst hex
      rw [if_neg (by simp)] at hrel
      have hwm : IntKind.i64.wrap ((m' : Int) + 1) = (m' : Int) + 1 := IntWalk.i64_in _ (by omega)
      have Hrel := Lib.hid hrel
      clear hrel
      by_cases h1 : 400 < m' + 1
      · have hb1 : (400 : Int) < (m' : Int) + 1 := by omega
        have hf : flt d (prv acc k) s (m' + 1) = 4 := by unfold flt; rw [if_pos h1]
        have hrel := Hrel.out
        rw [hf, if_pos (by decide)] at hrel
        have R1 := Lib.hid hrel.1
        clear hf hrel Hrel
        clear h1
        go_wp2_with fail
        (with_reducible refine (HTx.out wr HR.out).mono ?_)
        rintro e w3 ⟨rfl, hr3, hg3⟩
        have hp3 := HP.out.same (hg3.block g HP.out.lt (fun e => hne (by injection e)))
        have hc3 := hp3.c0
        have hc31 := hp3.c1
        have hf3 := hp3.free 1
        have hr3c := Rfs.c2 hr3
        have hp4 : Prs (w3.setCell ⟨g, 1, none⟩ (.int .i64 ((m' : Int) + 1))) g h (m' + 1) ce := hp3.set (m' + 1) _ (by simp)
        have hr4 : Rfs D (w3.setCell ⟨g, 1, none⟩ (.int .i64 ((m' : Int) + 1))) h l3 0 := Rfs.to hr3 (fun b hb => heap_setCell_other _ _ _ _ (by show b ≠ g; omega))
        have ht4 : Twb w (w3.setCell ⟨g, 1, none⟩ (.int .i64 ((m' : Int) + 1))) g h := (HW.out.grown hg3).setg 1 _
        have hc40 := hp4.c0
        have hc41 : (w3.setCell ⟨g, 1, none⟩ (.int .i64 ((m' : Int) + 1))).cell? ⟨g, 1, none⟩ = some (.int .i64 ((m' : Int) + 1)) := by have := hp4.c1; simpa using this
        have hc42 := Rfs.c2 hr4
        have HP4 := Lib.hid hp4
        have HR4 := Lib.hid hr4
        have HW4 := Lib.hid ht4
        clear hp3 hr3 hg3 hp4 hr4 ht4
        go_wp2_with fail
        (with_reducible refine (rfail_zero h l3 4 _ HR4.out).mono ?_)
        rintro e w5 ⟨rfl, hr5, hg5⟩
        have hp5 := HP4.out.same (hg5.block g HP4.out.lt (fun e => hne (by injection e)))
        have hc5 := hp5.c0
        have hr5c := Rfs.c2 hr5
        have HP5 := Lib.hid hp5
        have HR5 := Lib.hid hr5
        have HW5 := Lib.hid (HW4.out.grown hg5)
        clear hp5 hr5 hg5
        go_wp2_with fail
        go_ret
        exact ⟨none, 0, 0, rfl, fun h0 => absurd (by rw [R1.out] at h0; exact h0) (by simp), by rw [R1.out]; exact HP5.out, by rw [R1.out]; exact HR5.out, HW5.out⟩
      have hb1 : (m' : Int) + 1 ≤ 400 := by omega
      by_cases h2 : 12 < d
      · have hb2 : (12 : Int) < (d : Int) := by omega
        have hf : flt d (prv acc k) s (m' + 1) = 11 := by unfold flt; rw [if_neg h1, if_pos h2]
        have hrel := Hrel.out
        rw [hf, if_pos (by decide)] at hrel
        have R1 := Lib.hid hrel.1
        clear hf hrel Hrel
        clear h1 h2
        go_wp2_with fail
        (with_reducible refine (HTx.out wr HR.out).mono ?_)
        rintro e w3 ⟨rfl, hr3, hg3⟩
        have hp3 := HP.out.same (hg3.block g HP.out.lt (fun e => hne (by injection e)))
        have hc3 := hp3.c0
        have hc31 := hp3.c1
        have hf3 := hp3.free 1
        have hr3c := Rfs.c2 hr3
        have hp4 : Prs (w3.setCell ⟨g, 1, none⟩ (.int .i64 ((m' : Int) + 1))) g h (m' + 1) ce := hp3.set (m' + 1) _ (by simp)
        have hr4 : Rfs D (w3.setCell ⟨g, 1, none⟩ (.int .i64 ((m' : Int) + 1))) h l3 0 := Rfs.to hr3 (fun b hb => heap_setCell_other _ _ _ _ (by show b ≠ g; omega))
        have ht4 : Twb w (w3.setCell ⟨g, 1, none⟩ (.int .i64 ((m' : Int) + 1))) g h := (HW.out.grown hg3).setg 1 _
        have hc40 := hp4.c0
        have hc41 : (w3.setCell ⟨g, 1, none⟩ (.int .i64 ((m' : Int) + 1))).cell? ⟨g, 1, none⟩ = some (.int .i64 ((m' : Int) + 1)) := by have := hp4.c1; simpa using this
        have hc42 := Rfs.c2 hr4
        have HP4 := Lib.hid hp4
        have HR4 := Lib.hid hr4
        have HW4 := Lib.hid ht4
        clear hp3 hr3 hg3 hp4 hr4 ht4
        go_wp2_with fail
        (with_reducible refine (rfail_zero h l3 11 _ HR4.out).mono ?_)
        rintro e w5 ⟨rfl, hr5, hg5⟩
        have hp5 := HP4.out.same (hg5.block g HP4.out.lt (fun e => hne (by injection e)))
        have hc5 := hp5.c0
        have hr5c := Rfs.c2 hr5
        have HP5 := Lib.hid hp5
        have HR5 := Lib.hid hr5
        have HW5 := Lib.hid (HW4.out.grown hg5)
        clear hp5 hr5 hg5
        go_wp2_with fail
        go_ret
        exact ⟨none, 0, 0, rfl, fun h0 => absurd (by rw [R1.out] at h0; exact h0) (by simp), by rw [R1.out]; exact HP5.out, by rw [R1.out]; exact HR5.out, HW5.out⟩
      have hb2 : (d : Int) ≤ 12 := by omega
      by_cases h3 : 80 < s.size
      · have hb3 : (80 : Int) < (s.size : Int) := by omega
        have hf : flt d (prv acc k) s (m' + 1) = 5 := by unfold flt; rw [if_neg h1, if_neg h2, if_pos h3]
        have hrel := Hrel.out
        rw [hf, if_pos (by decide)] at hrel
        have R1 := Lib.hid hrel.1
        clear hf hrel Hrel
        clear h1 h2 h3
        go_wp2_with fail
        (with_reducible refine (HTx.out wr HR.out).mono ?_)
        rintro e w3 ⟨rfl, hr3, hg3⟩
        have hp3 := HP.out.same (hg3.block g HP.out.lt (fun e => hne (by injection e)))
        have hc3 := hp3.c0
        have hc31 := hp3.c1
        have hf3 := hp3.free 1
        have hr3c := Rfs.c2 hr3
        have hp4 : Prs (w3.setCell ⟨g, 1, none⟩ (.int .i64 ((m' : Int) + 1))) g h (m' + 1) ce := hp3.set (m' + 1) _ (by simp)
        have hr4 : Rfs D (w3.setCell ⟨g, 1, none⟩ (.int .i64 ((m' : Int) + 1))) h l3 0 := Rfs.to hr3 (fun b hb => heap_setCell_other _ _ _ _ (by show b ≠ g; omega))
        have ht4 : Twb w (w3.setCell ⟨g, 1, none⟩ (.int .i64 ((m' : Int) + 1))) g h := (HW.out.grown hg3).setg 1 _
        have hc40 := hp4.c0
        have hc41 : (w3.setCell ⟨g, 1, none⟩ (.int .i64 ((m' : Int) + 1))).cell? ⟨g, 1, none⟩ = some (.int .i64 ((m' : Int) + 1)) := by have := hp4.c1; simpa using this
        have hc42 := Rfs.c2 hr4
        have HP4 := Lib.hid hp4
        have HR4 := Lib.hid hr4
        have HW4 := Lib.hid ht4
        clear hp3 hr3 hg3 hp4 hr4 ht4
        go_wp2_with fail
        (with_reducible refine (rfail_zero h l3 5 _ HR4.out).mono ?_)
        rintro e w5 ⟨rfl, hr5, hg5⟩
        have hp5 := HP4.out.same (hg5.block g HP4.out.lt (fun e => hne (by injection e)))
        have hc5 := hp5.c0
        have hr5c := Rfs.c2 hr5
        have HP5 := Lib.hid hp5
        have HR5 := Lib.hid hr5
        have HW5 := Lib.hid (HW4.out.grown hg5)
        clear hp5 hr5 hg5
        go_wp2_with fail
        go_ret
        exact ⟨none, 0, 0, rfl, fun h0 => absurd (by rw [R1.out] at h0; exact h0) (by simp), by rw [R1.out]; exact HP5.out, by rw [R1.out]; exact HR5.out, HW5.out⟩
      have hb3 : (s.size : Int) ≤ 80 := by omega
      have hgb : g < w.heap.size := hglt
      have hhb : h < w.heap.size := by omega
      rcases Nat.eq_zero_or_pos k with hkz | hkz
      · have hf : flt d (prv acc k) s (m' + 1) = 0 := by
          unfold flt
          rw [if_neg h1, if_neg h2, if_neg h3, hkz]
          rfl
        have hg0 : ¬ ((0 : Int) < (k : Int)) := by omega
        clear h1 h2 h3 hkz
        have hrel := Hrel.out
        rw [hf, if_neg (by simp)] at hrel
        obtain ⟨kt, l4, m4, e4, ho2⟩ : ∃ kt l4 m4 e4, psT F (d + 1) (m' + 1) l3 = (kt, l4, m4, e4) := ⟨_, _, _, _, rfl⟩
        have hle4 := psT_le F (d + 1) (m' + 1) l3 (by omega)
        have HI := Lib.hid (fun (W : World) (h1 : Prs W g h (m' + 1) ce) (h2 : Rfs D W h l3 0) => ih (d + 1) (m' + 1) ce l3 D g h W (by omega) (by omega) (by omega) h1 h2 hgh)
        rw [ho2] at hrel hle4 HI
        simp only at hrel hle4
        rw [show (((d + 1 : Nat)) : Int) = (d : Int) + 1 from rfl] at HI
        have Hle4 := Lib.hid hle4
        have Hrel2 := Lib.hid hrel
        have hdd : d ≤ 13 := hd
        clear hf hrel Hrel ho2 hle4
        go_wp2_with fail
        (with_reducible refine (HTx.out wr HR.out).mono ?_)
        rintro e w3 ⟨rfl, hr3, hg3⟩
        have hp3 := HP.out.same (hg3.block g HP.out.lt (fun e => hne (by injection e)))
        have hc3 := hp3.c0
        have hc31 := hp3.c1
        have hf3 := hp3.free 1
        have hr3c := Rfs.c2 hr3
        have hp4 : Prs (w3.setCell ⟨g, 1, none⟩ (.int .i64 ((m' : Int) + 1))) g h (m' + 1) ce := hp3.set (m' + 1) _ (by simp)
        have hr4 : Rfs D (w3.setCell ⟨g, 1, none⟩ (.int .i64 ((m' : Int) + 1))) h l3 0 := Rfs.to hr3 (fun b hb => heap_setCell_other _ _ _ _ (by show b ≠ g; omega))
        have ht4 : Twb w (w3.setCell ⟨g, 1, none⟩ (.int .i64 ((m' : Int) + 1))) g h := (HW.out.grown hg3).setg 1 _
        have hc40 := hp4.c0
        have hc41 : (w3.setCell ⟨g, 1, none⟩ (.int .i64 ((m' : Int) + 1))).cell? ⟨g, 1, none⟩ = some (.int .i64 ((m' : Int) + 1)) := by have := hp4.c1; simpa using this
        have hc42 := Rfs.c2 hr4
        have HP4 := Lib.hid hp4
        have HR4 := Lib.hid hr4
        have HW4 := Lib.hid ht4
        have hE4 := edg_twb HE.out hgb hhb (((Twb.refl wr g h).grown hg3).setg 1 (.int .i64 ((m' : Int) + 1)))
        clear hp3 hr3 hg3 hp4 hr4 ht4
        have HE4 := Lib.hid hE4
        clear hE4
        go_wp2_with fail
        (with_reducible refine (HI.out _ HP4.out HR4.out).mono ?_)
        rintro e w5 ⟨A3, n3, c3, rfl, hkid, hp5, hr5, ht5⟩
        simp only at hkid hp5 hr5
        have hc5 := hp5.c0
        have hr5c := Rfs.c2 hr5
        have HK5 := Lib.hid hkid
        have HP5 := Lib.hid hp5
        have HR5 := Lib.hid hr5
        have HE5 := Lib.hid (edg_twb HE4.out hgb hhb ht5)
        have HW5 := Lib.hid (HW4.out.trans ht5)
        have hz5 := ht5.size
        have hz4 := HW4.out.size
        clear hkid hp5 hr5 ht5
        by_cases he4 : e4 = 0
        case neg =>
          have hrel := Hrel2.out
          rw [if_pos he4] at hrel
          have R1 := Lib.hid hrel.1
          have hexb : (e4 != 0) = true := by simpa using he4
          have He4 := Lib.hid he4
          clear hrel he4
          go_wp2_with fail
          go_ret
          exact ⟨none, 0, 0, rfl, fun h0 => absurd (by rw [R1.out] at h0; exact h0) He4.out, by rw [R1.out]; exact HP5.out, by rw [R1.out]; exact HR5.out, HW5.out⟩
        subst he4
        have hrel := Hrel2.out
        rw [if_neg (by simp)] at hrel
        have hm4 : m4 ≤ 400 := Hle4.out rfl
        have hkl : k = acc.len := HE5.out.len
        have hR : RelO T (psK (psT F (d + 1)) d (n - (k + 1)) (prv (appT acc (.cons s kt .nil)) (k + 1)) m4 l4) (appT acc (.cons s kt .nil)) := by
          rw [Hi2.out, hkl, prv_snoc]
          refine ⟨?_, fun h0 => ?_⟩
          · have := hrel.1
            split at this <;> exact this
          · rw [if_neg (by simpa using h0)] at hrel
            rw [appT_cons]
            exact hrel.2 h0
        have HR2 := Lib.hid hR
        have hk1 : k + 1 ≤ 1099511627776 := by omega
        have hbase5 : w.heap.size ≤ w5.heap.size := HW5.out.size
        clear hrel hR hkl
        go_wp2_with (at_builtin; refine wpList_append_row rfl (.tmp 117) (.tmp 121) _ _ rfl elem_edge rfl rfl (HE5.out.own.alloc _) (src_edge _ s A3 n3 c3 _ rfl) hk1 (by simp; omega) ?_; intro A4 c4 w6 ho6 hg6 hat6)
        have hEa := HE5.out.below (w' := w5.alloc (Obj.cells #[Value.string s, Value.slice A3 n3 c3] 44)) ((Below.refl _ _).alloc (Nat.le_refl _) _)
        have hK := HK5.out (by first | trivial | rfl)
        have hkid : RowP (w5.alloc (Obj.cells #[Value.string s, Value.slice A3 n3 c3] 44)) (fun b => w.heap.size ≤ b ∧ b < (w5.alloc (Obj.cells #[Value.string s, Value.slice A3 n3 c3] 44)).heap.size ∧ some b ≠ (Value.slice A k c).ownBlock) [.string s, .slice A3 n3 c3] (.cons s kt .nil) := by
          refine RowP.one ?_ hK.2.1 hK.2.2
          refine (hK.1.keep (w' := w5.alloc (Obj.cells #[Value.string s, Value.slice A3 n3 c3] 44)) (fun b o hb => World.cell?_alloc_lt _ _ _ hb.2)).more (fun b hb => ⟨Nat.le_trans hz4 hb.1, by have := hb.2; simp; omega, fun e => ?_⟩)
          have h1 := (HE4.out.own.lt b e.symm).2
          have := hb.1
          omega
        have hP := hEa.push hkid ho6 hg6 (fun a ha => (hat6 a ha).imp (fun e => Nat.le_of_eq e.symm) id)
        have hown : ∀ q, (Value.slice A k c).ownBlock = some q → w.heap.size ≤ q := fun q hq => (HE5.out.own.lt q hq).1
        have hsm : ∀ b, b < w.heap.size → w6.heap[b]? = w5.heap[b]? := fun b hb => (hg6.block b (by simp; omega) (fun e => by have := hown b e.symm; omega)).trans (Below.heap_alloc w5 _ b (by omega))
        have HEz := Lib.hid hP
        have HPz := Lib.hid (HP5.out.same (hsm g hgb))
        have HRz := Lib.hid (Rfs.to HR5.out (fun b hb => hsm b (by omega)))
        have HWz := Lib.hid ((HW5.out.alloc _).own hown hg6)
        clear hP hkid hEa hsm hK hown
        go_wp2_with fail
        go_roundw
        case rel => exact ⟨k + 1, A4, c4, _, _, m4, l4, Hlt.out, by go_num, rfl, HEz, hm4, HPz, HRz, HWz, HR2⟩
        case measure => have := Hlt.out; simp [intOf]; omega
      · obtain ⟨j, hj⟩ : ∃ j, k = j + 1 := ⟨k - 1, by omega⟩
        obtain ⟨b', o', q, kt', r', Aq, nq', cq, rfl, _, hsp, _, _, _, _, _, hdp, _⟩ := (HE.out.holds (Nat.le_refl _)).split j (by omega)
        have hbb : w.heap.size ≤ b' ∧ b' < wr.heap.size := HE.out.own.lt b' rfl
        have hpv : prv acc k = some q := by rw [prv, if_neg (by omega), hj, Nat.add_sub_cancel]; exact nameAt_drop acc j hdp
        have hj1 : (k : Int) - 1 = (j : Int) := by omega
        have hj0 : (0 : Int) ≤ (j : Int) := by omega
        have hjn : (j : Int) < (k : Int) := by omega
        have hg0 : (0 : Int) < (k : Int) := by omega
        have hkb : k ≤ 65535 := by omega
        have Hsp := Lib.hid hsp
        clear hsp hdp
        cases hbl : Op.bytesLess q.toList s.toList with
        | false =>
          have hf : flt d (prv acc k) s (m' + 1) = 12 := by
            unfold flt
            rw [if_neg h1, if_neg h2, if_neg h3, hpv]
            simp [notAfter, hbl]
          have hrel := Hrel.out
          rw [hf, if_pos (by decide)] at hrel
          have R1 := Lib.hid hrel.1
          clear hf hrel Hrel h1 h2 h3 hpv hj
          rcases not_lt hbl with h5 | ⟨h5, h6⟩
          all_goals
            go_wp2_with fail
            (with_reducible refine (HTx.out wr HR.out).mono ?_)
            rintro e w3 ⟨rfl, hr3, hg3⟩
            have hp3 := HP.out.same (hg3.block g HP.out.lt (fun e => hne (by injection e)))
            have hc3 := hp3.c0
            have hc31 := hp3.c1
            have hf3 := hp3.free 1
            have hr3c := Rfs.c2 hr3
            have hp4 : Prs (w3.setCell ⟨g, 1, none⟩ (.int .i64 ((m' : Int) + 1))) g h (m' + 1) ce := hp3.set (m' + 1) _ (by simp)
            have hr4 : Rfs D (w3.setCell ⟨g, 1, none⟩ (.int .i64 ((m' : Int) + 1))) h l3 0 := Rfs.to hr3 (fun b hb => heap_setCell_other _ _ _ _ (by show b ≠ g; omega))
            have ht4 : Twb w (w3.setCell ⟨g, 1, none⟩ (.int .i64 ((m' : Int) + 1))) g h := (HW.out.grown hg3).setg 1 _
            have hc40 := hp4.c0
            have hc41 : (w3.setCell ⟨g, 1, none⟩ (.int .i64 ((m' : Int) + 1))).cell? ⟨g, 1, none⟩ = some (.int .i64 ((m' : Int) + 1)) := by have := hp4.c1; simpa using this
            have hc42 := Rfs.c2 hr4
            have HP4 := Lib.hid hp4
            have HR4 := Lib.hid hr4
            have HW4 := Lib.hid ht4
            have hsp4 := (World.cell?_of_block (a := ⟨b', o' + j * 2, none⟩) ((((Twb.refl wr g h).grown hg3).setg 1 (.int .i64 ((m' : Int) + 1))).block b' hbb.2 (by omega) (by omega))).trans Hsp.out
            clear hp3 hr3 hg3 hp4 hr4 ht4
            go_wp2_with fail
            (with_reducible refine (rfail_zero h l3 12 _ HR4.out).mono ?_)
            rintro e w5 ⟨rfl, hr5, hg5⟩
            have hp5 := HP4.out.same (hg5.block g HP4.out.lt (fun e => hne (by injection e)))
            have hc5 := hp5.c0
            have hr5c := Rfs.c2 hr5
            have HP5 := Lib.hid hp5
            have HR5 := Lib.hid hr5
            have HW5 := Lib.hid (HW4.out.grown hg5)
            clear hp5 hr5 hg5
            go_wp2_with fail
            go_ret
            exact ⟨none, 0, 0, rfl, fun h0 => absurd (by rw [R1.out] at h0; exact h0) (by simp), by rw [R1.out]; exact HP5.out, by rw [R1.out]; exact HR5.out, HW5.out⟩
        | true =>
          have hf : flt d (prv acc k) s (m' + 1) = 0 := by
            unfold flt
            rw [if_neg h1, if_neg h2, if_neg h3, hpv]
            simp [notAfter, hbl]
          clear h1 h2 h3 hpv hj
          obtain ⟨h5, h6⟩ := lt_not hbl
          clear hbl
          have hrel := Hrel.out
          rw [hf, if_neg (by simp)] at hrel
          obtain ⟨kt, l4, m4, e4, ho2⟩ : ∃ kt l4 m4 e4, psT F (d + 1) (m' + 1) l3 = (kt, l4, m4, e4) := ⟨_, _, _, _, rfl⟩
          have hle4 := psT_le F (d + 1) (m' + 1) l3 (by omega)
          have HI := Lib.hid (fun (W : World) (h1 : Prs W g h (m' + 1) ce) (h2 : Rfs D W h l3 0) => ih (d + 1) (m' + 1) ce l3 D g h W (by omega) (by omega) (by omega) h1 h2 hgh)
          rw [ho2] at hrel hle4 HI
          simp only at hrel hle4
          rw [show (((d + 1 : Nat)) : Int) = (d : Int) + 1 from rfl] at HI
          have Hle4 := Lib.hid hle4
          have Hrel2 := Lib.hid hrel
          have hdd : d ≤ 13 := hd
          clear hf hrel Hrel ho2 hle4
          go_wp2_with fail
          (with_reducible refine (HTx.out wr HR.out).mono ?_)
          rintro e w3 ⟨rfl, hr3, hg3⟩
          have hp3 := HP.out.same (hg3.block g HP.out.lt (fun e => hne (by injection e)))
          have hc3 := hp3.c0
          have hc31 := hp3.c1
          have hf3 := hp3.free 1
          have hr3c := Rfs.c2 hr3
          have hp4 : Prs (w3.setCell ⟨g, 1, none⟩ (.int .i64 ((m' : Int) + 1))) g h (m' + 1) ce := hp3.set (m' + 1) _ (by simp)
          have hr4 : Rfs D (w3.setCell ⟨g, 1, none⟩ (.int .i64 ((m' : Int) + 1))) h l3 0 := Rfs.to hr3 (fun b hb => heap_setCell_other _ _ _ _ (by show b ≠ g; omega))
          have ht4 : Twb w (w3.setCell ⟨g, 1, none⟩ (.int .i64 ((m' : Int) + 1))) g h := (HW.out.grown hg3).setg 1 _
          have hc40 := hp4.c0
          have hc41 : (w3.setCell ⟨g, 1, none⟩ (.int .i64 ((m' : Int) + 1))).cell? ⟨g, 1, none⟩ = some (.int .i64 ((m' : Int) + 1)) := by have := hp4.c1; simpa using this
          have hc42 := Rfs.c2 hr4
          have HP4 := Lib.hid hp4
          have HR4 := Lib.hid hr4
          have HW4 := Lib.hid ht4
          have hE4 := edg_twb HE.out hgb hhb (((Twb.refl wr g h).grown hg3).setg 1 (.int .i64 ((m' : Int) + 1))); have hsp4 := (World.cell?_of_block (a := ⟨b', o' + j * 2, none⟩) ((((Twb.refl wr g h).grown hg3).setg 1 (.int .i64 ((m' : Int) + 1))).block b' hbb.2 (by omega) (by omega))).trans Hsp.out
          clear hp3 hr3 hg3 hp4 hr4 ht4
          have HE4 := Lib.hid hE4
          clear hE4
          go_wp2_with fail
          (with_reducible refine (HI.out _ HP4.out HR4.out).mono ?_)
          rintro e w5 ⟨A3, n3, c3, rfl, hkid, hp5, hr5, ht5⟩
          simp only at hkid hp5 hr5
          have hc5 := hp5.c0
          have hr5c := Rfs.c2 hr5
          have HK5 := Lib.hid hkid
          have HP5 := Lib.hid hp5
          have HR5 := Lib.hid hr5
          have HE5 := Lib.hid (edg_twb HE4.out hgb hhb ht5)
          have HW5 := Lib.hid (HW4.out.trans ht5)
          have hz5 := ht5.size
          have hz4 := HW4.out.size
          clear hkid hp5 hr5 ht5
          by_cases he4 : e4 = 0
          case neg =>
            have hrel := Hrel2.out
            rw [if_pos he4] at hrel
            have R1 := Lib.hid hrel.1
            have hexb : (e4 != 0) = true := by simpa using he4
            have He4 := Lib.hid he4
            clear hrel he4
            go_wp2_with fail
            go_ret
            exact ⟨none, 0, 0, rfl, fun h0 => absurd (by rw [R1.out] at h0; exact h0) He4.out, by rw [R1.out]; exact HP5.out, by rw [R1.out]; exact HR5.out, HW5.out⟩
          subst he4
          have hrel := Hrel2.out
          rw [if_neg (by simp)] at hrel
          have hm4 : m4 ≤ 400 := Hle4.out rfl
          have hkl : k = acc.len := HE5.out.len
          have hR : RelO T (psK (psT F (d + 1)) d (n - (k + 1)) (prv (appT acc (.cons s kt .nil)) (k + 1)) m4 l4) (appT acc (.cons s kt .nil)) := by
            rw [Hi2.out, hkl, prv_snoc]
            refine ⟨?_, fun h0 => ?_⟩
            · have := hrel.1
              split at this <;> exact this
            · rw [if_neg (by simpa using h0)] at hrel
              rw [appT_cons]
              exact hrel.2 h0
          have HR2 := Lib.hid hR
          have hk1 : k + 1 ≤ 1099511627776 := by omega
          have hbase5 : w.heap.size ≤ w5.heap.size := HW5.out.size
          clear hrel hR hkl
          go_wp2_with (at_builtin; refine wpList_append_row rfl (.tmp 117) (.tmp 121) _ _ rfl elem_edge rfl rfl (HE5.out.own.alloc _) (src_edge _ s A3 n3 c3 _ rfl) hk1 (by simp; omega) ?_; intro A4 c4 w6 ho6 hg6 hat6)
          have hEa := HE5.out.below (w' := w5.alloc (Obj.cells #[Value.string s, Value.slice A3 n3 c3] 44)) ((Below.refl _ _).alloc (Nat.le_refl _) _)
          have hK := HK5.out (by first | trivial | rfl)
          have hkid : RowP (w5.alloc (Obj.cells #[Value.string s, Value.slice A3 n3 c3] 44)) (fun b => w.heap.size ≤ b ∧ b < (w5.alloc (Obj.cells #[Value.string s, Value.slice A3 n3 c3] 44)).heap.size ∧ some b ≠ (Value.slice (some ⟨b', o', none⟩) k c).ownBlock) [.string s, .slice A3 n3 c3] (.cons s kt .nil) := by
            refine RowP.one ?_ hK.2.1 hK.2.2
            refine (hK.1.keep (w' := w5.alloc (Obj.cells #[Value.string s, Value.slice A3 n3 c3] 44)) (fun b o hb => World.cell?_alloc_lt _ _ _ hb.2)).more (fun b hb => ⟨Nat.le_trans hz4 hb.1, by have := hb.2; simp; omega, fun e => ?_⟩)
            have h1 := (HE4.out.own.lt b e.symm).2
            have := hb.1
            omega
          have hP := hEa.push hkid ho6 hg6 (fun a ha => (hat6 a ha).imp (fun e => Nat.le_of_eq e.symm) id)
          have hown : ∀ q, (Value.slice (some ⟨b', o', none⟩) k c).ownBlock = some q → w.heap.size ≤ q := fun q hq => (HE5.out.own.lt q hq).1
          have hsm : ∀ b, b < w.heap.size → w6.heap[b]? = w5.heap[b]? := fun b hb => (hg6.block b (by simp; omega) (fun e => by have := hown b e.symm; omega)).trans (Below.heap_alloc w5 _ b (by omega))
          have HEz := Lib.hid hP
          have HPz := Lib.hid (HP5.out.same (hsm g hgb))
          have HRz := Lib.hid (Rfs.to HR5.out (fun b hb => hsm b (by omega)))
          have HWz := Lib.hid ((HW5.out.alloc _).own hown hg6)
          clear hP hkid hEa hsm hK hown
          go_wp2_with fail
          go_roundw
          case rel => exact ⟨k + 1, A4, c4, _, _, m4, l4, Hlt.out, by go_num, rfl, HEz, hm4, HPz, HRz, HWz, HR2⟩
          case measure => have := Hlt.out; simp [intOf]; omega
end Go.Proofs.Ytebiinjcegdmpaa.Ps
