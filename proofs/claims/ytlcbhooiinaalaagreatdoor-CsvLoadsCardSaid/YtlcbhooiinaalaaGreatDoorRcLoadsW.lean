/- CsvLoads' walk. Conditions: MaxLen's cell. -/
import Derived.Test.YtlcbhooiinaalaaGreatDoorRcFile
import Derived.Test.YtlcbhooiinaalaaGreatDoorMwLiRSplit
import Derived.Laws.IdiomStrings
namespace Go.Proofs.YtlcbhooiinaalaaGreatDoor.Cv
open Go.RowKit Go.Proofs.YtlcbhooiinaalaaGreatDoor.Jd Go.Proofs.YtlcbhooiinaalaaGreatDoor.Li Go.Proofs.YtlcbhooiinaalaaGreatDoor.Cl Go.Proofs.YtlcbhooiinaalaaGreatDoor.Pt
set_option maxRecDepth 100000

theorem readF_size (l : Bs) : (readF l).1.size ≤ 17179869184 := by
  rw [← load_same]
  unfold loadR
  by_cases h1 : 4000 < l.length
  · rw [if_pos h1]; exact Nat.zero_le _
  · rw [if_neg h1]
    have := (rowsR_ok l (by omega)).2
    split
    · exact Nat.zero_le _
    · split
      · exact Nat.zero_le _
      · split
        · exact Nat.zero_le _
        · exact this
/-- The bytes of a text, in a row of their own. -/
theorem conv_bytes (s : ByteArray) (w : World) : ∃ (Wb : World) (cap : Nat), (convert 9 26 (.string s)).run Tryz.prog w = .ok (.slice (some ⟨w.heap.size, 0, none⟩) s.size cap) Wb ∧ s.size ≤ cap ∧ Below w.heap.size w Wb ∧ w.heap.size < Wb.heap.size ∧
    Sees Wb Wb.heap.size (some ⟨w.heap.size, 0, none⟩) s.size s.data.toList ∧ ∀ j, j < s.size → Wb.frozen? ⟨w.heap.size, j, none⟩ = false := by
  have h := run_bytes_of_string (P := Tryz.prog) w 9 26 5 s Tryz.underlying9 Tryz.underlying26 Tryz.underlying5
  have hge := grownCap_ge w s.size 0 5
  generalize hc : grownCap w s.size 0 5 = cap at h hge
  have hbr : (bytesRow s cap).size = cap := by
    unfold bytesRow
    rw [Array.size_append, Array.size_map, Array.size_replicate]
    have : s.data.size = s.size := rfl
    omega
  rw [hbr] at h
  have hg : (w.drew.alloc (.cells (bytesRow s cap) 5 (cap, cap + 1))).heap[w.heap.size]? = some (.cells (bytesRow s cap) 5 (cap, cap + 1)) := heap_alloc_new w.drew _
  have hgl := (Array.getElem?_eq_some_iff.1 hg).1
  refine ⟨_, cap, h, hge, ((Below.refl w.heap.size w).drew).alloc (Nat.le_refl _) _, hgl, ⟨rfl, fun j u hj => ⟨_, rfl, hgl, ?_⟩⟩, fun j hj => ?_⟩
  · rw [Addr.add_lit, cell_of_row _ _ _ _ _ _ hg, Nat.zero_add]
    have hjs : j < s.data.size := (List.getElem?_eq_some_iff.1 hj).1
    have hu : s.data[j] = u := by
      have := (List.getElem?_eq_some_iff.1 hj).2
      simpa using this
    unfold bytesRow
    rw [Array.getElem?_append_left (by rw [Array.size_map]; exact hjs), Array.getElem?_map, Array.getElem?_eq_getElem hjs, hu]
    rfl
  · unfold World.frozen?
    have e : (w.drew.alloc (.cells (bytesRow s cap) 5 (cap, cap + 1))).heap[w.heap.size]? = some (.cells (bytesRow s cap) 5 (cap, cap + 1)) := hg
    rw [e]
    simp
    omega
/-- A byte in a row of bytes, written over. -/
theorem sees_set {w : World} {g n j : Nat} {l : List UInt8} (h : Sees w w.heap.size (some ⟨g, 0, none⟩) n l) (hj : j < n) (v : UInt8) : Sees (w.setCell ⟨g, j, none⟩ (.int .u8 (v.toNat : Int))) (w.setCell ⟨g, j, none⟩ (.int .u8 (v.toNat : Int))).heap.size (some ⟨g, 0, none⟩) n (l.set j v) := by
  have hs : (w.setCell ⟨g, j, none⟩ (.int .u8 (v.toNat : Int))).heap.size = w.heap.size := by simp
  refine ⟨by rw [List.length_set]; exact h.len, fun q u hq => ⟨_, rfl, ?_, ?_⟩⟩
  · obtain ⟨a, ha, hb, _⟩ := h.cell j (l[j]'(by rw [← h.len]; exact hj)) (List.getElem?_eq_getElem _)
    injection ha with ha
    rw [hs]
    subst ha
    exact hb
  · rw [Addr.add_lit, Nat.zero_add]
    by_cases hqj : j = q
    · subst hqj
      have e : u = v := by
        rw [List.getElem?_set_self (by rw [← h.len]; exact hj)] at hq
        injection hq with hq
        exact hq.symm
      obtain ⟨a, ha, hb, hc⟩ := h.cell j (l[j]'(by rw [← h.len]; exact hj)) (List.getElem?_eq_getElem _)
      injection ha with ha
      subst ha
      rw [Addr.add_lit, Nat.zero_add] at hc
      rw [e]
      exact World.cell?_setCell_same (a := ⟨g, j, none⟩) (v := .int .u8 (v.toNat : Int)) w hc
    · rw [List.getElem?_set_ne hqj] at hq
      obtain ⟨a, ha, hb, hc⟩ := h.cell q u hq
      injection ha with ha
      subst ha
      rw [Addr.add_lit, Nat.zero_add] at hc
      exact (World.cell?_setCell_other (a := ⟨g, j, none⟩) (b := ⟨g, q, none⟩) (v := .int .u8 (v.toNat : Int)) w (fun e => hqj (by injection e))).trans hc
/-- Bytes still lie there. -/
def Byt (w : World) (g n : Nat) (wx : World) : Prop := ∃ l, Sees wx wx.heap.size (some ⟨g, 0, none⟩) n l ∧ Below w.heap.size w wx
/-- Six files. -/
def In6 (w : World) (v : Value) (wx : World) : Prop := ∃ g, v = .slice (some ⟨g, 0, none⟩) 6 6 ∧ g < wx.heap.size ∧ (∀ i, i < 6 → ∃ x : ByteArray, wx.cell? ⟨g, i, none⟩ = some (.string x) ∧ x.size ≤ 4000) ∧ Below w.heap.size w wx

set_option maxHeartbeats 4000000 in
theorem loads_walk (A : Option Addr) (n c : Nat) (l : List Int) (at_ bb wo : Int) (raw : ByteArray) (w : World) (h : SeesV w w.heap.size A n (l.map (Value.int .i64))) (hr : ∀ x ∈ l, -9223372036854775808 ≤ x ∧ x ≤ 9223372036854775807) (hc : n ≤ c) (hm : c ≤ maxLen)
    (ha : -9223372036854775808 ≤ at_ ∧ at_ ≤ 9223372036854775807) (_ : 0 ≤ bb ∧ bb ≤ 255) (hwo : -9223372036854775808 ≤ wo ∧ wo ≤ 9223372036854775807) (hG : Gl w) :
    Calls Tryz.prog 3 #[.slice A n c, .int .i64 at_, .int .u8 bb, .int .i64 wo, .string raw] w fun e w' => e = .returned (.bool true) ∧ Below w.heap.size w w' := by
  have HKn := Lib.hid (known_any w hG)
  have HG := Lib.hid hG
  by_cases hraw : 300 < raw.size
  · have hraw' : (300 : Int) < (raw.size : Int) := by omega
    clear hraw h hr hG
    go_enter Tryz.func3, Tryz.ntmps3
    go_wp2_with fail
    (with_reducible refine HKn.out.mono ?_)
    rintro e w1 ⟨rfl, hb1⟩
    go_wp2_with fail
    go_ret
    exact ⟨rfl, hb1⟩
  · have hraw' : ¬ (300 : Int) < (raw.size : Int) := by omega
    have HFile := Lib.hid (fun (W : World) (hW : Below w.heap.size w W) => file_any A n c l W (sees_up (h.below hW) hW.size) hr hc hm)
    have Hraw : Hid (raw.size ≤ 300) := Lib.hid (by omega)
    clear hraw h hr hG
    go_enter Tryz.func3, Tryz.ntmps3
    go_wp2_with fail
    (with_reducible refine HKn.out.mono ?_)
    rintro e w1 ⟨rfl, hb1⟩
    have HB1 := Lib.hid hb1
    have HF1 := Lib.hid (HFile.out w1 hb1)
    clear hb1
    go_wp2_with fail
    (with_reducible refine HF1.out.mono ?_)
    rintro e w2 ⟨s, hs, rfl, hb2⟩
    have HB2 := Lib.hid (HB1.out.trans (hb2.mono HB1.out.size))
    clear hb2
    obtain ⟨k, hk, HK'⟩ := within_nat at_ (s.size + 1) (by omega) (by omega) ha
    have HK : Hid (∀ w, Calls Tryz.prog 10 #[.int .i64 at_, .int .i64 ((s.size : Int) + 1)] w fun e w' => e = .returned (.int .i64 k) ∧ w = w') := Lib.hid (fun w => by have := HK' w; rwa [Int.natCast_succ] at this)
    obtain ⟨Wb, cap, hcv, hcap, hbb2, hgl, hsee, hfrz⟩ := conv_bytes s w2
    have HB3 := Lib.hid (HB2.out.trans (hbb2.mono HB2.out.size))
    have HSee := Lib.hid hsee
    have Hfrz := Lib.hid hfrz
    have Hgl := Lib.hid hgl
    have Hbb2 := Lib.hid hbb2
    clear HK' hsee hfrz hgl hbb2
    go_wp2_with fail
    (with_reducible refine (HK.out _).mono ?_)
    rintro e w3 ⟨rfl, rfl⟩
    go_upto_if 38 with (fail)
    go_cut [] from 36 (fun wx => Byt w w2.heap.size s.size wx)
    case first =>
      by_cases h0 : s.size = 0
      · have h0' : ¬ (0 : Int) < (s.size : Int) := by omega
        clear h0
        go_wp2_with fail
        go_meet
        exact ⟨s.data.toList, HSee.out, HB3.out⟩
      · have h0' : (0 : Int) < (s.size : Int) := by omega
        obtain ⟨j, hj, HJ'⟩ := within_nat at_ s.size (by omega) (by omega) ha
        have HJ : Hid (∀ w, Calls Tryz.prog 10 #[.int .i64 at_, .int .i64 s.size] w fun e w' => e = .returned (.int .i64 j) ∧ w = w') := Lib.hid HJ'
        have hjI : (j : Int) < (s.size : Int) := by omega
        have hj0 : (0 : Int) ≤ (j : Int) := by omega
        obtain ⟨b0, hb0⟩ : ∃ b0 : UInt8, s.data.toList[j]? = some b0 := ⟨_, List.getElem?_eq_getElem (show j < s.data.toList.length from hj)⟩
        have hcj : Wb.cell? ⟨w2.heap.size, j, none⟩ = some (.int .u8 (b0.toNat : Int)) := by
          obtain ⟨a, e, _, h2⟩ := HSee.out.cell j b0 hb0
          injection e with e
          subst e
          rw [Addr.add_lit, Nat.zero_add] at h2
          exact h2
        have hfj := Hfrz.out j hj
        obtain ⟨v, hv⟩ : ∃ v : UInt8, IntKind.u8.wrap ((b0.toNat : Int) + bb) = (v.toNat : Int) := by
          refine ⟨UInt8.ofNat (((b0.toNat : Int) + bb) % 256).toNat, ?_⟩
          rw [IntKind.wrap_u8, UInt8.toNat_ofNat']
          omega
        have HS2 := Lib.hid (sees_set HSee.out hj v)
        have HB4 : Hid (Below w.heap.size w (Wb.setCell ⟨w2.heap.size, j, none⟩ (.int .u8 (v.toNat : Int)))) := Lib.hid (HB3.out.setCell HB2.out.size _)
        clear HJ' hb0 h0
        go_wp2_with fail
        (with_reducible refine (HJ.out _).mono ?_)
        rintro e w4 ⟨rfl, rfl⟩
        go_wp2_with fail
        go_meet
        exact ⟨_, HS2.out, HB4.out⟩
    case rest =>
      obtain ⟨lb, hlb, hbc⟩ := hcut
      obtain ⟨w5, rfl⟩ : ∃ w5 : World, w5 = wc := ⟨_, rfl⟩
      have HLb := Lib.hid hlb
      have HBc := Lib.hid hbc
      have hlbn := hlb.len
      obtain ⟨B, hB⟩ : ∃ B : ByteArray, B = ⟨lb.toArray⟩ := ⟨_, rfl⟩
      have hBz : B.size = s.size := by rw [hB]; show lb.toArray.size = _; rw [List.size_toArray]; exact hlbn.symm
      have HCv := Lib.hid (fun (W : World) (hW : Below w5.heap.size w5 W) => by
        have := run_text (P := Tryz.prog) (c := cap) 26 9 5 Tryz.underlying26 Tryz.underlying5 Tryz.underlying9 (HLb.out.below hW)
        rw [← hB] at this
        exact this)
      have HBz := Lib.hid hBz
      clear hlb hbc hlbn hB hBz
      go_upto_region 10 with (fail)
      go_cut [14] from 49 (fun v wx => In6 w v wx)
      case first =>
        have hcv2 := HCv.out
        have hk0 : (0 : Int) ≤ (k : Int) := by omega
        have hks : (k : Int) ≤ (s.size : Int) := by omega
        have hz1 : (s.extract 0 k).size ≤ 1500 := by rw [ByteArray.size_extract]; omega
        have hz2 : (s.extract k s.size).size ≤ 1500 := by rw [ByteArray.size_extract]; omega
        have hq0 : Below w5.heap.size w5 w5.drew := (Below.refl _ _).drew
        obtain ⟨x1, hx1⟩ : ∃ x, x = s.extract 0 k := ⟨_, rfl⟩
        obtain ⟨x2, hx2⟩ : ∃ x, x = s.extract k s.size := ⟨_, rfl⟩
        rw [← hx1] at hz1
        rw [← hx2] at hz2
        have hx1' := hx1.symm
        have hx2' := hx2.symm
        clear hx1 hx2 hcv hk
        have HOdd := Lib.hid odd_any
        go_region_held3 (fun W => Below w5.heap.size w5 W) (first | exact hq0 | exact hq6 | exact hq7 | exact hq7.alloc hq7.size _)
          (first
          | (go_at_call 11; (with_reducible refine (HOdd.out wo hwo _).mono ?_); rintro e w6 ⟨o1, ho1, rfl, hb6⟩; have hq6 := hq0.trans (hb6.mono hq0.size); have ha1 := (fun W => run_string_add_sum (P := Tryz.prog) (w := W) x1 o1 (by omega)); obtain ⟨y1, hy1⟩ : ∃ x, x = x1 ++ o1 := ⟨_, rfl⟩; rw [← hy1] at ha1; have hy1z : y1.size ≤ 1509 := (by rw [hy1, ByteArray.size_append]; omega); have ha2 := (fun W => run_string_add_sum (P := Tryz.prog) (w := W) y1 x2 (by omega)); obtain ⟨y2, hy2⟩ : ∃ x, x = y1 ++ x2 := ⟨_, rfl⟩; rw [← hy2] at ha2; have hy2z : y2.size ≤ 3009 := (by rw [hy2, ByteArray.size_append]; omega); clear hy1 hy2)
          | (go_at_call 11; (with_reducible refine (HOdd.out at_ ha _).mono ?_); rintro e w7 ⟨o2, ho2, rfl, hb7⟩; have hq7 := hq6.trans (hb7.mono hq6.size); have ha3 := (fun W => run_string_add_sum (P := Tryz.prog) (w := W) s o2 (by omega)); obtain ⟨y3, hy3⟩ : ∃ x, x = s ++ o2 := ⟨_, rfl⟩; rw [← hy3] at ha3; have hy3z : y3.size ≤ 1509 := (by rw [hy3, ByteArray.size_append]; omega); clear hy3))
        all_goals
          go_wp2_with fail
          go_meet
          have hz := HBz.out
          have hrw := Hraw.out
          have hc := fun i => cell_of_row _ _ i _ _ _ (heap_alloc_new w7 (.cells #[.string s, .string x1, .string y2, .string B, .string raw, .string y3] 9))
          refine ⟨w7.heap.size, rfl, (Array.getElem?_eq_some_iff.1 (heap_alloc_new w7 _)).1, fun i hi => ?_, (HBc.out.trans (hq7.mono HBc.out.size)).alloc (HBc.out.trans (hq7.mono HBc.out.size)).size _⟩
          match i, hi with
          | 0, _ => exact ⟨s, hc 0, by omega⟩
          | 1, _ => exact ⟨x1, hc 1, by omega⟩
          | 2, _ => exact ⟨y2, hc 2, by omega⟩
          | 3, _ => exact ⟨B, hc 3, by omega⟩
          | 4, _ => exact ⟨raw, hc 4, by omega⟩
          | 5, _ => exact ⟨y3, hc 5, by omega⟩
      case rest =>
        obtain ⟨g, rfl, hgl, hin, hbc⟩ := hcut
        obtain ⟨w8, rfl⟩ : ∃ w8 : World, w8 = wc := ⟨_, rfl⟩
        have Hin := Lib.hid hin
        have HB8 := Lib.hid hbc
        clear hin hbc hcv
        go_wp2_with fail
        go_loopw [15] (fun i wr => ∃ (q : Nat), q ≤ 6 ∧ i = .int .i64 q ∧ Hid (Below w8.heap.size w8 wr)) (fun i _ => 6 - (intOf i).toNat)
        case atStart => exact ⟨0, by omega, rfl, Lib.hid (Below.refl _ _)⟩
        case round =>
          obtain ⟨q, hq, rfl, HW⟩ := hrel
          by_cases hlt : q < 6
          · have q1 : (q : Int) < 6 := by omega
            have q0 : (0 : Int) ≤ (q : Int) := by omega
            obtain ⟨x, hx, hxz⟩ := Hin.out q hlt
            have hcx : wr.cell? ⟨g, q, none⟩ = some (.string x) := (HW.out.cell (p := ⟨g, q, none⟩) hgl).trans hx
            have HBr := Lib.hid (HB8.out.trans (HW.out.mono HB8.out.size))
            have HLo := Lib.hid (load_any x wr (fun _ _ z _ => pl_all z) (HG.out.below HBr.out))
            have HRl := Lib.hid (fun W => rload_any x W (by omega))
            obtain ⟨o, ho⟩ : ∃ o, o = readF x.data.toList := ⟨_, rfl⟩
            have hoz := readF_size x.data.toList
            rw [← ho] at HLo HRl hoz
            have Hlt := Lib.hid hlt
            have Hoz := Lib.hid hoz
            clear ho hoz hlt hx hxz
            go_wp2_with fail
            (with_reducible refine HLo.out.mono ?_)
            rintro e w9 ⟨At, ct, rfl, hT, hcap, hb9⟩
            have HT9 := Lib.hid (hT.to (B := w9.heap.size) fun b hb => hb.2)
            have hcx9 := (hb9.cell (p := ⟨g, q, none⟩) (Nat.lt_of_lt_of_le hgl HW.out.size)).trans hcx
            have HW9 := Lib.hid (HW.out.trans (hb9.mono HW.out.size))
            clear hT hb9 hcx
            go_wp2_with fail
            (with_reducible refine (HRl.out w9).mono ?_)
            rintro e w10 ⟨Bt, nt, dt, rfl, hT2, hnt, hdt, hb10⟩
            have hln := hT2.len
            have hls := o.1.len_size
            have hoz := Hoz.out
            have HSa := Lib.hid (rsame_any o.1.size o.1 o.1 At Bt o.1.len nt ct dt w10.heap.size w10 (Nat.le_refl _) ((HT9.out.below hb10).more hb10.size) hT2 (Nat.le_refl _) (by omega) (by omega) (low_size _ (by omega)) (low_size _ (by omega)))
            rw [same_refl] at HSa
            have HW10 := Lib.hid (HW9.out.trans (hb10.mono HW9.out.size))
            clear hT2 hb10 hcx9 hln hls hoz
            go_wp2_with fail
            (with_reducible refine HSa.out.mono ?_)
            rintro e w11 ⟨rfl, qq, rfl⟩
            go_wp2_with fail
            go_roundw
            case rel => exact ⟨q + 1, Hlt.out, by go_num, Lib.hid (below_drewN HW10.out _)⟩
            case measure => have := Hlt.out; simp [intOf]; omega
          · obtain rfl : q = 6 := by omega
            go_wp2_with fail
            go_ret
            exact ⟨rfl, HB8.out.trans (HW.out.mono HB8.out.size)⟩
end Go.Proofs.YtlcbhooiinaalaaGreatDoor.Cv
