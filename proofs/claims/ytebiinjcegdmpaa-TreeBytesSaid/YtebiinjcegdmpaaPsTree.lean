/- The program's parser reads a tree. Conditions: at most 13 deep, at most 400 edges so far. -/
import Derived.Test.YtebiinjcegdmpaaMgPp
import Derived.Test.YtebiinjcegdmpaaPsRefW
import Derived.Outline
namespace Go.Proofs.Ytebiinjcegdmpaa.Ps
open Go.RowKit Go.Proofs.Ytebiinjcegdmpaa.Jd Go.Proofs.Ytebiinjcegdmpaa.Cl
set_option maxRecDepth 100000

/-- How a tree's reading ends. -/
def PtP (w : World) (base g h : Nat) (L : List ByteArray) (O : Out) (en : Ending) (w' : World) : Prop :=
  ∃ (A : Option Addr) (n c : Nat), en = .returned (.slice A n c) ∧ Rds w' h O.2.1 O.2.2.2 ∧ Pbe w' g h ∧ Tws base g h w w' ∧
    (O.2.2.2 = 0 → (HoldsP w' (fun b => w.heap.size ≤ b ∧ b < w'.heap.size ∧ NotS w' b) A n O.1 ∧ n ≤ c ∧ c ≤ maxLen) ∧ ∃ L', Pbx w' base g h O.2.2.1 L' ∧ L'.take L.length = L)
/-- The names kept within a level. -/
def LInv (L L' : List ByteArray) (acc : Tr) (k : Nat) : Prop := L'.take L.length = L ∧ (k = 0 → L' = L) ∧ (0 < k → ∃ q, prv acc k = some q ∧ L.length < L'.length ∧ L'.getD L.length ⟨#[]⟩ = q)
theorem LInv.lt {L L' : List ByteArray} {acc : Tr} {k : Nat} (h : LInv L L' acc k) : L.length ≤ L'.length := by
  have := congrArg List.length h.1
  rw [List.length_take] at this
  omega
theorem flt_judge {L L' : List ByteArray} {acc : Tr} {k m d : Nat} {s : ByteArray} (h : LInv L L' acc k) (hd : L.length + 1 = d) : judgeE m L' d s = flt d (prv acc k) s (m + 1) := by
  obtain ⟨h1, h2, h3⟩ := h
  unfold judgeE flt
  subst hd
  by_cases c1 : 400 < m + 1
  · rw [if_pos c1, if_pos c1]
  rw [if_neg c1, if_neg c1]
  by_cases c2 : 12 < L.length + 1
  · rw [if_pos c2, if_pos c2]
  rw [if_neg c2, if_neg c2]
  by_cases c3 : 80 < s.size
  · rw [if_pos c3, if_pos c3]
  rw [if_neg c3, if_neg c3]
  rcases Nat.eq_zero_or_pos k with hk | hk
  · rw [h2 hk, hk]
    have e : prv acc 0 = none := rfl
    rw [e]
    rw [if_neg (by omega)]
    simp [notAfter]
  · obtain ⟨q, e, e1, e2⟩ := h3 hk
    rw [e, Nat.add_sub_cancel, e2]
    cases hb : Op.bytesLess q.toList s.toList with
    | true => simp [notAfter, hb]
    | false => rw [if_pos ⟨by omega, rfl⟩]; simp [notAfter, hb]
theorem LInv.next {L L' L5 : List ByteArray} {acc : Tr} {k d : Nat} {s : ByteArray} {kt : Tr} (h : LInv L L' acc k) (hd : L.length + 1 = d) (hk : k = acc.len) (h5 : L5.take (judgeL L' d s).length = judgeL L' d s) : LInv L L5 (appT acc (.cons s kt .nil)) (k + 1) := by
  have hl : (judgeL L' d s).length = d := judgeL_length (by omega) (by have := h.lt; omega)
  rw [hl] at h5
  have hl5 : d ≤ L5.length := by
    have := congrArg List.length h5
    rw [List.length_take, hl] at this
    omega
  have hj : judgeL L' d s = L ++ [s] := by
    unfold judgeL
    rw [show d - 1 = L.length by omega, h.1]
  refine ⟨?_, fun e => by omega, fun _ => ⟨s, by rw [hk, prv_snoc], by omega, ?_⟩⟩
  · have : (L5.take d).take L.length = (L ++ [s]).take L.length := by rw [h5, hj]
    rw [List.take_take, Nat.min_eq_left (by omega), List.take_left' rfl] at this
    exact this
  · have : (L5.take d)[L.length]? = (L ++ [s])[L.length]? := by rw [h5, hj]
    rw [List.getElem?_take_of_lt (by omega)] at this
    rw [List.getD_eq_getElem?_getD, this]
    simp

theorem psK_9 {sub : Nat → List UInt8 → Out} {d : Nat} (hs : ∀ m l, (sub m l).2.2.2 ≠ 9) : ∀ (i : Nat) (p : Option ByteArray) (m : Nat) (l : List UInt8), (psK sub d i p m l).2.2.2 ≠ 9
  | 0, _, _, _ => by simp [psK]
  | i + 1, p, m, l => by
    rw [psK]
    split
    · exact txStep_9 l 0 (by omega)
    · split
      · show ¬ ((flt d p _ (m + 1) : Nat) : Int) = 9
        unfold flt
        repeat' split
        all_goals omega
      · split
        · exact hs _ _
        · split
          · exact psK_9 hs i _ _ _
          · exact psK_9 hs i _ _ _
theorem psT_9 : ∀ (F d m : Nat) (l : List UInt8), (psT F d m l).2.2.2 ≠ 9
  | 0, _, _, _ => by simp [psT]
  | F + 1, d, m, l => by
    rw [psT]
    split
    · exact rdStep_9 1 _ _ (rdStep_9 1 l 0 (by omega))
    · exact psK_9 (fun m l => psT_9 F (d + 1) m l) _ _ _ _

/-- Between two rounds, with no error; with one. -/
def MdO (w wr : World) (base g h n k d F : Nat) (L : List ByteArray) (T : Out) (a : Value) : Prop :=
  ∃ (A : Option Addr) (c : Nat) (acc : Tr) (vs : List Value) (m' : Nat) (l' : List UInt8) (L' : List ByteArray), a = .slice A k c ∧ Hid (EdgS wr w.heap.size A k c acc vs) ∧ m' ≤ 400 ∧ Hid (Pbx wr base g h m' L') ∧ Hid (LInv L L' acc k) ∧ Hid (Rds wr h l' 0) ∧ Hid (Tws base g h w wr) ∧ Hid (RelO T (psK (psT F (d + 1)) d (n - k) (prv acc k) m' l') acc)
def MdE (w wr : World) (base g h : Nat) (T : Out) (a : Value) : Prop :=
  ∃ (A : Option Addr) (n1 c : Nat) (l' : List UInt8) (e : Int), a = .slice A n1 c ∧ Hid (e ≠ 0 ∧ e ≠ 9 ∧ T.2.1 = l' ∧ T.2.2.2 = e) ∧ Hid (Pbe wr g h) ∧ Hid (Rds wr h l' e) ∧ Hid (Tws base g h w wr)

set_option maxHeartbeats 4000000 in
theorem gtree_any (F : Nat) : ∀ (d m : Nat) (l : List UInt8) (base g h : Nat) (L : List ByteArray) (w : World), 14 ≤ F + d → d ≤ 13 → L.length + 1 = d → m ≤ 400 → Pbx w base g h m L → Rds w h l 0 → h < g → g < base →
    Calls Try.prog 31 #[.pointer (some ⟨g, 0, none⟩), .int .i64 (d : Nat)] w (PtP w base g h L (psT F d m l)) := by
  induction F with
  | zero => intro d m l base g h L w hF hd; omega
  | succ F ih =>
    intro d m l base g h L w hF hd hL hm hp hr hgh hgb
    have hbw := hp.base_le
    have hC := count_any base g h m l L w hp hr hgh
    obtain ⟨v0, l1, e1, hv0⟩ : ∃ v0 l1 e1, rdStep 1 l 0 = (v0, l1, e1) := ⟨_, _, _, rfl⟩
    obtain ⟨v1, l2, e2, hv1⟩ : ∃ v1 l2 e2, rdStep 1 l1 e1 = (v1, l2, e2) := ⟨_, _, _, rfl⟩
    have hb0 : v0 < 256 := by have := rdStep_lt 1 l 0; rw [hv0] at this; exact this
    have hb1 : v1 < 256 := by have := rdStep_lt 1 l1 e1; rw [hv1] at this; exact this
    have he9 : e2 ≠ 9 := by have := rdStep_9 1 l1 e1 (by have := rdStep_9 1 l 0 (by omega); rw [hv0] at this; exact this); rw [hv1] at this; exact this
    have hO : psT (F + 1) d m l = if e2 ≠ 0 then (.nil, l2, m, e2) else psK (psT F (d + 1)) d (v0 + 256 * v1) none m l2 := by
      rw [psT, hv0]
      simp only [hv1]
    rw [hO]
    rw [hv0] at hC
    simp only at hC
    rw [hv1] at hC
    obtain ⟨n, hn⟩ : ∃ n, n = v0 + 256 * v1 := ⟨_, rfl⟩
    have hnb : n ≤ 65535 := by omega
    simp only at hC
    rw [← hn] at hC ⊢
    have HC := Lib.hid hC
    obtain ⟨T, hT⟩ : ∃ T, T = (if e2 ≠ 0 then (Tr.nil, l2, m, e2) else psK (psT F (d + 1)) d n none m l2) := ⟨_, rfl⟩
    rw [← hT]
    have HT := Lib.hid hT
    have HL := Lib.hid hL
    have He9 := Lib.hid he9
    clear hT hv0 hv1 hO hC hp hr hn hb0 hb1 he9 hL
    go_enter Try.func31, Try.ntmps31
    go_wp2_with fail
    (with_reducible refine HC.out.mono ?_)
    rintro e w1 ⟨rfl, hr1, hp1, ht1⟩
    have HP1 := Lib.hid hp1
    have HR1 := Lib.hid hr1
    have HT1 := Lib.hid ht1
    clear hp1 hr1 ht1 HC
    go_wp2_with fail
    go_loopw [5, 10] (fun a i wr => ∃ (k : Nat), k ≤ n ∧ i = .int .i64 k ∧ (MdO w wr base g h n k d F L T a ∨ MdE w wr base g h T a)) (fun _ i _ => n - (intOf i).toNat)
    case atStart =>
      refine ⟨0, Nat.zero_le _, rfl, ?_⟩
      by_cases he : e2 = 0
      · have hT := HT.out
        rw [if_neg (by simpa using he)] at hT
        refine .inl ⟨none, 0, .nil, [], m, l2, L, rfl, Lib.hid (EdgS.nil _ _), hm, HP1, Lib.hid ⟨by rw [List.take_length], fun _ => rfl, fun h => by omega⟩, Lib.hid (by have := HR1.out; rw [he] at this; exact this), HT1, Lib.hid ⟨by rw [hT]; rfl, fun _ => by rw [hT]; rfl⟩⟩
      · have hT := HT.out
        rw [if_pos he] at hT
        exact .inr ⟨none, 0, 0, l2, e2, rfl, Lib.hid ⟨he, He9.out, by rw [hT], by rw [hT]⟩, Lib.hid HP1.out.pbe, HR1, HT1⟩
    case round =>
      obtain ⟨k, hk, rfl, hmode⟩ := hrel
      clear HP1 HR1 HT1 HT
      rcases hmode with ⟨A, c, acc, vs, m', l', L', rfl, HE, hm', HP, HLI, HR, HW, HRel⟩ | ⟨A, n1, c, l', e, rfl, HEr, HPe, HR, HW⟩
      case inr =>
        have hc0 := HPe.out.c0
        by_cases hlt : k < n
        · have hkn : (k : Int) < (n : Int) := by omega
          have hte : txStep l' e = ([], l', e) := by
            unfold txStep
            rw [rdStep_err HEr.out.1]
            exact txNext_err HEr.out.1
          have HNm := Lib.hid (name_err g h d l' l' [] e e wr HPe.out HR.out hte HEr.out.1 HEr.out.2.1 hgh)
          clear hlt hte
          go_wp2_with fail
          (with_reducible refine HNm.out.mono ?_)
          rintro en w3 ⟨rfl, hr3, hp3, hg3⟩
          have HR3 := Lib.hid hr3
          have HP3 := Lib.hid hp3
          have HW3 := Lib.hid (HW.out.read hg3)
          clear hr3 hp3 hg3
          go_wp2_with fail
          go_ret
          exact ⟨none, 0, 0, rfl, by rw [HEr.out.2.2.1, HEr.out.2.2.2]; exact HR3.out, HP3.out, HW3.out, fun h0 => absurd (by rw [← HEr.out.2.2.2]; exact h0) HEr.out.1⟩
        · have hkn : ¬ (k : Int) < (n : Int) := by omega
          clear hlt
          go_wp2_with fail
          go_ret
          exact ⟨A, n1, c, rfl, by rw [HEr.out.2.2.1, HEr.out.2.2.2]; exact HR.out, HPe.out, HW.out, fun h0 => absurd (by rw [← HEr.out.2.2.2]; exact h0) HEr.out.1⟩
      have hc0 := HP.out.pbe.c0
      by_cases hlt : k < n
      case neg =>
        obtain rfl : k = n := by omega
        have hrel := HRel.out
        rw [Nat.sub_self, psK] at hrel
        obtain ⟨r1, r2⟩ := hrel
        have r3 := r2 rfl
        rw [appT_nil] at r3
        have R1 := Lib.hid r1
        have R3 := Lib.hid r3
        clear hlt r1 r2 r3 HRel
        go_wp2_with fail
        go_ret
        exact ⟨A, k, c, rfl, by rw [R1.out]; exact HR.out, HP.out.pbe, HW.out, fun _ => ⟨⟨by rw [R3.out]; exact HE.out.holdsP, HE.out.cap⟩, L', by rw [R1.out]; exact HP.out, HLI.out.1⟩⟩
      have hkn : (k : Int) < (n : Int) := by omega
      have hrel := HRel.out
      obtain ⟨i, hi⟩ : ∃ i, n - k = i + 1 := ⟨n - k - 1, by omega⟩
      have hi2 : n - (k + 1) = i := by omega
      obtain ⟨tx, l3, ex, htx⟩ : ∃ tx l3 ex, txStep l' 0 = (tx, l3, ex) := ⟨_, _, _, rfl⟩
      have hex9 : ex ≠ 9 := by have := txStep_9 l' 0 (by omega); rw [htx] at this; exact this
      rw [hi, psK, htx] at hrel
      simp only at hrel
      have Hi2 := Lib.hid hi2
      have Hlt := Lib.hid hlt
      clear HRel hi hi2 hlt
      by_cases hex : ex = 0
      case neg =>
        rw [if_pos hex] at hrel
        have R1 := Lib.hid hrel.1
        have HNm := Lib.hid (name_err g h d l' l3 tx 0 ex wr HP.out.pbe HR.out htx hex hex9 hgh)
        have Hex := Lib.hid hex
        clear hrel hex hex9 htx
        go_wp2_with fail
        (with_reducible refine HNm.out.mono ?_)
        rintro en w3 ⟨rfl, hr3, hp3, hg3⟩
        have HR3 := Lib.hid hr3
        have HP3 := Lib.hid hp3
        have HW3 := Lib.hid (HW.out.read hg3)
        clear hr3 hp3 hg3
        go_wp2_with fail
        go_ret
        exact ⟨none, 0, 0, rfl, by rw [R1.out]; exact HR3.out, HP3.out, HW3.out, fun h0 => absurd (by rw [R1.out] at h0; exact h0) Hex.out⟩
      subst hex
      rw [if_neg (by simp)] at hrel
      obtain ⟨s, hs⟩ : ∃ s : ByteArray, s = ⟨tx.toArray⟩ := ⟨_, rfl⟩
      rw [← hs] at hrel
      have hfj := flt_judge (m := m') (s := s) HLI.out HL.out
      obtain ⟨x, hx⟩ : ∃ x, x = judgeE m' L' d s := ⟨_, rfl⟩
      rw [← hfj, ← hx] at hrel
      have HNm := Lib.hid (name_any base g h m' d L' l' l3 tx s x wr HP.out HR.out htx hs hx hm' (by have := HL.out; omega) (by have := HLI.out.lt; have := HL.out; omega) hgh hgb)
      have hx9 : (x : Int) ≠ 9 := by
        rw [hx]
        unfold judgeE
        repeat' split
        all_goals omega
      have hxm : x = 0 → m' + 1 ≤ 400 ∧ d ≤ 12 := fun h0 => by
        have := judgeE_zero (hx.symm.trans h0)
        exact ⟨this.1, this.2.1⟩
      have Hxm := Lib.hid hxm
      clear htx hs hx hfj hex9 hxm
      by_cases hx0 : x = 0
      case neg =>
        rw [if_pos (by simpa using hx0)] at hrel
        have R1 := Lib.hid hrel.1
        have hdx : decide (x = 0) = false := decide_eq_false hx0
        have Hx0 := Lib.hid hx0
        have HNm2 : Hid (Calls Try.prog 61 #[.pointer (some ⟨g, 0, none⟩), .int .i64 (d : Nat)] wr fun en w' => en = .returned (.tuple #[.string s, .bool false]) ∧ Rds w' h l3 (x : Nat) ∧ Pbe w' g h ∧ Tws base g h wr w') := Lib.hid (HNm.out.mono fun en w' hh => ⟨by rw [hh.1, hdx], hh.2.1, hh.2.2.1, hh.2.2.2.1⟩)
        clear hrel hx0 hdx HNm
        go_wp2_with fail
        (with_reducible refine HNm2.out.mono ?_)
        rintro en w3 ⟨rfl, hr3, hp3, ht3⟩
        have HR3 := Lib.hid hr3
        have HP3 := Lib.hid hp3
        have HW3 := Lib.hid (HW.out.trans ht3)
        clear hr3 hp3 ht3
        go_wp2_with fail
        go_ret
        exact ⟨none, 0, 0, rfl, by rw [R1.out]; exact HR3.out, HP3.out, HW3.out, fun h0 => absurd (by rw [R1.out] at h0; exact h0) (by have := Hx0.out; show ¬ ((x : Nat) : Int) = 0; omega)⟩
      subst hx0
      rw [if_neg (by simp)] at hrel
      obtain ⟨hm1, hd12⟩ := Hxm.out rfl
      have HNm2 : Hid (Calls Try.prog 61 #[.pointer (some ⟨g, 0, none⟩), .int .i64 (d : Nat)] wr fun en w' => en = .returned (.tuple #[.string s, .bool true]) ∧ Rds w' h l3 0 ∧ Pbx w' base g h (m' + 1) (judgeL L' d s) ∧ Tws base g h wr w') := Lib.hid (HNm.out.mono fun en w' hh => ⟨hh.1, hh.2.1, hh.2.2.2.2 rfl, hh.2.2.2.1⟩)
      obtain ⟨kt, l4, m4, e4, ho2⟩ : ∃ kt l4 m4 e4, psT F (d + 1) (m' + 1) l3 = (kt, l4, m4, e4) := ⟨_, _, _, _, rfl⟩
      have hle4 := psT_le F (d + 1) (m' + 1) l3 (by omega)
      have hjl : (judgeL L' d s).length + 1 = d + 1 := by rw [judgeL_length (by have := HL.out; omega) (by have := HLI.out.lt; have := HL.out; omega)]
      have HI := Lib.hid (fun (W : World) (h1 : Pbx W base g h (m' + 1) (judgeL L' d s)) (h2 : Rds W h l3 0) => ih (d + 1) (m' + 1) l3 base g h (judgeL L' d s) W (by omega) (by omega) hjl (by omega) h1 h2 hgh hgb)
      rw [ho2] at hrel hle4 HI
      simp only at hrel hle4
      rw [show (((d + 1 : Nat)) : Int) = (d : Int) + 1 from rfl] at HI
      have hwd : IntKind.i64.wrap ((d : Int) + 1) = (d : Int) + 1 := IntWalk.i64_in _ (by omega)
      have Hle4 := Lib.hid hle4
      have Ho2 := Lib.hid ho2
      have Hrel2 := Lib.hid hrel
      clear hrel hle4 ho2 hjl HNm hx9 hm1
      go_wp2_with fail
      (with_reducible refine HNm2.out.mono ?_)
      rintro en w3 ⟨rfl, hr3, hp3, ht3⟩
      have HR3 := Lib.hid hr3
      have HP3 := Lib.hid hp3
      have hgw : g < w.heap.size := by omega
      have hhw : h < w.heap.size := by omega
      have HE3 := Lib.hid (HE.out.tws hgw hhw ht3)
      have HW3 := Lib.hid (HW.out.trans ht3)
      clear hr3 hp3 ht3
      go_wp2_with fail
      (with_reducible refine (HI.out w3 HP3.out HR3.out).mono ?_)
      rintro en w5 ⟨A3, n3, c3, rfl, hr5, hp5, ht5, hok5⟩
      simp only at hr5 hok5
      have HK5 := Lib.hid hok5
      have HP5 := Lib.hid hp5
      have HR5 := Lib.hid hr5
      have HE5 := Lib.hid (HE3.out.tws hgw hhw ht5)
      have HW5 := Lib.hid (HW3.out.trans ht5)
      have hz5 := ht5.size
      have hz3 := HW3.out.size
      have hk1 : k + 1 ≤ 1099511627776 := by omega
      have hbase5 : w.heap.size ≤ w5.heap.size := HW5.out.size
      clear hr5 hp5 ht5 hok5
      go_wp2_with (at_builtin; refine wpList_append_row rfl (.tmp 20) (.tmp 27) _ _ rfl elem_edge rfl rfl (HE5.out.own.alloc _) (src_edge _ s A3 n3 c3 _ rfl) hk1 (by simp; omega) ?_; intro A4 c4 w6 ho6 hg6 hat6)
      have hown : ∀ q, (Value.slice A k c).ownBlock = some q → w.heap.size ≤ q ∧ NotS (w5.alloc (Obj.cells #[Value.string s, Value.slice A3 n3 c3] 44)) q := fun q hq => by
        obtain ⟨h1, cu, h2⟩ := own_at HE5.out.own hq
        exact ⟨h1, (notS_cells h2 (by decide)).to (Below.heap_alloc w5 _ q (Array.getElem?_eq_some_iff.1 h2).1)⟩
      have hsm : ∀ b, b < w.heap.size → w6.heap[b]? = w5.heap[b]? := fun b hb => (hg6.block b (by simp; omega) (fun e => by have := (hown b e.symm).1; omega)).trans (Below.heap_alloc w5 _ b (by omega))
      have HRz := Lib.hid (Rds.to HR5.out (fun b hb => hsm b (by omega)))
      have HWz := Lib.hid ((HW5.out.alloc (Obj.cells #[Value.string s, Value.slice A3 n3 c3] 44)).own (fun q hq => (hown q hq).1) hg6)
      by_cases he4 : e4 = 0
      case neg =>
        have hrel := Hrel2.out
        rw [if_pos he4] at hrel
        have hPe := HP5.out.same (hsm g hgw)
        have hT9 : e4 ≠ 9 := by
          have := psT_9 F (d + 1) (m' + 1) l3
          rw [Ho2.out] at this
          exact this
        have HEr := Lib.hid (⟨he4, hT9, by rw [hrel.1], by rw [hrel.1]⟩ : e4 ≠ 0 ∧ e4 ≠ 9 ∧ T.2.1 = l4 ∧ T.2.2.2 = e4)
        have HPe := Lib.hid hPe
        clear hrel hown hsm hPe hT9 he4
        go_wp2_with fail
        go_roundw
        case rel => exact ⟨k + 1, Hlt.out, by go_num, .inr ⟨A4, _, c4, l4, e4, rfl, HEr, HPe, HRz, HWz⟩⟩
        case measure => have := Hlt.out; simp [intOf]; omega
      subst he4
      obtain ⟨hK, L5, hp5, hL5⟩ := HK5.out rfl
      have hEa := HE5.out.keep (w' := w5.alloc (Obj.cells #[Value.string s, Value.slice A3 n3 c3] 44)) (by simp) (fun b _ hb _ => Below.heap_alloc w5 _ b hb)
      have hkid : RowP (w5.alloc (Obj.cells #[Value.string s, Value.slice A3 n3 c3] 44)) (fun b => w.heap.size ≤ b ∧ b < (w5.alloc (Obj.cells #[Value.string s, Value.slice A3 n3 c3] 44)).heap.size ∧ some b ≠ (Value.slice A k c).ownBlock ∧ NotS (w5.alloc (Obj.cells #[Value.string s, Value.slice A3 n3 c3] 44)) b) [.string s, .slice A3 n3 c3] (.cons s kt .nil) := by
        refine RowP.one ?_ hK.2.1 hK.2.2
        refine (hK.1.keep (w' := w5.alloc (Obj.cells #[Value.string s, Value.slice A3 n3 c3] 44)) (fun b o hb => World.cell?_alloc_lt _ _ _ hb.2.1)).more (fun b hb => ⟨Nat.le_trans hz3 hb.1, by have := hb.2.1; simp; omega, fun e => ?_, hb.2.2.to (Below.heap_alloc w5 _ b hb.2.1)⟩)
        have h1 := (HE3.out.own.lt b e.symm).2
        have := hb.1
        omega
      have hP := hEa.push hkid ho6 hg6 (fun a ha => (hat6 a ha).imp (fun e => Nat.le_of_eq e.symm) id)
      have hpz : Pbx w6 base g h m4 L5 := hp5.to (Nat.le_trans (by simp) hg6.size) (fun b hb => by
        by_cases hbl : b < w5.heap.size
        · refine (hg6.block b (by simp; omega) (fun e => ?_)).trans (Below.heap_alloc w5 _ b hbl)
          obtain ⟨h1, h2⟩ := hown b e.symm
          rcases hb with hb | hb
          · omega
          · exact hb.2 (h2.to (Below.heap_alloc w5 _ b hbl).symm)
        · rcases hb with hb | hb
          · omega
          · exact absurd (fun cu x e => by rw [Array.getElem?_eq_none (by omega)] at e; cases e) hb.2)
      have hrel := Hrel2.out
      rw [if_neg (by simp)] at hrel
      have hm4 : m4 ≤ 400 := Hle4.out rfl
      have hkl : k = acc.len := HE5.out.len
      have hLI := HLI.out.next (kt := kt) HL.out hkl hL5
      have hRR : RelO T (psK (psT F (d + 1)) d (n - (k + 1)) (prv (appT acc (.cons s kt .nil)) (k + 1)) m4 l4) (appT acc (.cons s kt .nil)) := by
        rw [Hi2.out, hkl, prv_snoc]
        refine ⟨?_, fun h0 => ?_⟩
        · have := hrel.1
          split at this <;> exact this
        · rw [if_neg (by simpa using h0)] at hrel
          rw [appT_cons]
          exact hrel.2 h0
      have HR2 := Lib.hid hRR
      have HEz := Lib.hid hP
      have HPz := Lib.hid hpz
      have HLz := Lib.hid hLI
      clear hrel hRR hkl hP hkid hEa hsm hK hown hpz hLI hp5 hL5
      go_wp2_with fail
      go_roundw
      case rel => exact ⟨k + 1, Hlt.out, by go_num, .inl ⟨A4, c4, _, _, m4, l4, L5, rfl, HEz, hm4, HPz, HLz, HRz, HWz, HR2⟩⟩
      case measure => have := Hlt.out; simp [intOf]; omega
end Go.Proofs.Ytebiinjcegdmpaa.Ps
