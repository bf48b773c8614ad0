/- csv: a field written anew; all of a row's. Conditions: texts of ASCII bytes; MaxLen's cell. · csv.textOf: a line's text that means these. Conditions: texts of ASCII bytes, of at most 4000; MaxLen's cell. -/
import Derived.Test.YtecnilcfhicfmaaGreatDoorMw16
import Derived.Test.YtecnilcfhicfmaaGreatDoorMw17
import Derived.Deep.RegionWith
namespace Go.Proofs.YtecnilcfhicfmaaGreatDoor.Cv
open Go.RowKit Go.Proofs.YtecnilcfhicfmaaGreatDoor.Jd Go.Proofs.YtecnilcfhicfmaaGreatDoor.Li
set_option maxRecDepth 100000

/-- A field, written anew. -/
def qF (l : Bs) : Bs := if Lib.containsAny l [34, 44] = true then [34] ++ Lib.replaceAll l [34] [34, 34] ++ [34] else l
theorem replaceK_len (old new : Bs) : ∀ (k : Nat) (s : Bs), (Lib.replaceK old new k s).length ≤ s.length + k * new.length
  | 0, s => by rw [Lib.replaceK]; omega
  | k + 1, s => by
    rw [Lib.replaceK]
    split
    · omega
    · have := replaceK_len old new k (s.drop ((Lib.index s old).toNat + old.length))
      simp only [List.length_append, List.length_take, List.length_drop, Nat.add_mul] at this ⊢
      omega
theorem replaceAll_len (s old new : Bs) : (Lib.replaceAll s old new).length ≤ s.length + (s.length + 1) * new.length := by
  have hc := Lib.count_le s old
  unfold Lib.replaceAll Lib.replace Lib.replaceNum
  split
  · omega
  · rw [if_pos (.inl (by decide))]
    have h := replaceK_len old new (Lib.count s old) s
    have := Nat.mul_le_mul_right new.length hc
    omega
theorem qF_len (l : Bs) : (qF l).length ≤ 3 * l.length + 4 := by
  unfold qF
  have := replaceAll_len l [34] [34, 34]
  simp only [List.length_cons, List.length_nil] at this
  split
  · simp only [List.length_append, List.length_cons, List.length_nil]; omega
  · omega
theorem ascii_qc : ∀ (j : Nat) b, (ByteArray.mk #[34, 44]).data.toList[j]? = some b → b.toNat < 128 := by
  intro j b h
  match j, h with
  | 0, h => simp at h; subst h; decide
  | 1, h => simp at h; subst h; decide
  | j + 2, h => simp at h

set_option maxHeartbeats 2000000 in
theorem quoted_any (s : ByteArray) (w : World) (hz : s.size ≤ 4000) (hp : Pl s) (hG : Gl w) : Calls Tryz.prog 61 #[.string s] w fun e w' => e = .returned (.string ⟨(qF s.data.toList).toArray⟩) ∧ Below w.heap.size w w' := by
  have HC := Lib.hid (Tryz.strings_ContainsAny_laid s ⟨#[34, 44]⟩ w (by omega) (by decide) hp ascii_qc)
  obtain ⟨v, hv⟩ : ∃ v, v = Lib.containsAny s.data.toList (ByteArray.mk #[34, 44]).data.toList := ⟨_, rfl⟩
  rw [← hv] at HC
  have HV : Hid (qF s.data.toList = if v = true then [34] ++ Lib.replaceAll s.data.toList [34] [34, 34] ++ [34] else s.data.toList) := Lib.hid (by rw [hv]; rfl)
  have hR : ∀ (W : World), Gl W → Calls Tryz.prog 97 #[.string s, .string ⟨#[34]⟩, .string ⟨#[34, 34]⟩] W fun e w' => e = .returned (.string ⟨(Lib.replaceAll s.data.toList [34] [34, 34]).toArray⟩) ∧ Below W.heap.size W w' := by
    intro W hW
    obtain ⟨m, hm⟩ := hW
    have hcb := Lib.countB_le ⟨#[34]⟩ (by decide) s.size s (Nat.le_refl _)
    have h := Tryz.strings_ReplaceAll s ⟨#[34]⟩ ⟨#[34, 34]⟩ m W (by omega) hm (by decide) (by have e : (ByteArray.mk #[34, 34]).size = 2 := rfl; rw [e]; omega)
    exact h
  obtain ⟨r, hr⟩ : ∃ r, r = ByteArray.mk (Lib.replaceAll s.data.toList [34] [34, 34]).toArray := ⟨_, rfl⟩
  have hrz : r.size ≤ 12010 := by
    have := replaceAll_len s.data.toList [34] [34, 34]
    have e : r.size = (Lib.replaceAll s.data.toList [34] [34, 34]).length := by rw [hr]; rfl
    have es : s.size = s.data.toList.length := rfl
    simp only [List.length_cons, List.length_nil] at this
    omega
  have e1 : (ByteArray.mk #[34]).size = 1 := rfl
  have ha1 := fun W => run_string_add_sum (P := Tryz.prog) (w := W) ⟨#[34]⟩ r (by omega)
  have ha2 := fun W => run_string_add_sum (P := Tryz.prog) (w := W) (⟨#[34]⟩ ++ r) ⟨#[34]⟩ (by rw [ByteArray.size_append]; omega)
  rw [← hr] at hR
  have HE : Hid ((⟨#[34]⟩ ++ r) ++ ⟨#[34]⟩ = ByteArray.mk ([34] ++ Lib.replaceAll s.data.toList [34] [34, 34] ++ [34]).toArray) := Lib.hid (by rw [hr]; exact ByteArray.ext (by simp))
  clear hr hrz
  have HR := Lib.hid (fun W (hb : Below w.heap.size w W) => hR W (hG.below hb))
  clear hp hG hR hv
  cases v with
  | false =>
    go_enter Tryz.func61, Tryz.ntmps61
    go_wp2_with fail
    (with_reducible refine HC.out.mono ?_)
    rintro e w1 ⟨rfl, hb1⟩
    go_wp2_with fail
    go_ret
    exact ⟨by rw [HV.out]; rfl, hb1⟩
  | true =>
    go_enter Tryz.func61, Tryz.ntmps61
    go_wp2_with fail
    (with_reducible refine HC.out.mono ?_)
    rintro e w1 ⟨rfl, hb1⟩
    go_wp2_with fail
    (with_reducible refine (HR.out _ hb1).mono ?_)
    rintro e w2 ⟨rfl, hb2⟩
    have hb12 := hb1.trans (hb2.mono hb1.size)
    clear hb1 hb2
    go_wp2_with fail
    go_ret
    exact ⟨by rw [HV.out, if_pos True.intro, ← HE.out]; rfl, hb12⟩
end Go.Proofs.YtecnilcfhicfmaaGreatDoor.Cv
namespace Go.Proofs.YtecnilcfhicfmaaGreatDoor.Cv
open Go.RowKit Go.Proofs.YtecnilcfhicfmaaGreatDoor.Jd Go.Proofs.YtecnilcfhicfmaaGreatDoor.Li
set_option maxRecDepth 100000

theorem seesV_more {w : World} {B B' n : Nat} {A : Option Addr} {vs : List Value} (h : SeesV w B A n vs) (hB : B ≤ B') : SeesV w B' A n vs :=
  ⟨h.len, fun j u hu => by
    obtain ⟨b, o, ha, hb, hc⟩ := h.cell j u hu
    exact ⟨b, o, ha, Nat.lt_of_lt_of_le hb hB, hc⟩⟩
/-- The fields of a line that means these, and was so. -/
def fieldF : List ByteArray → List Ln → List Bs
  | [], _ => []
  | m :: ms, [] => qF m.data.toList :: fieldF ms []
  | m :: ms, x :: xs => (if ((ByteArray.mk x.2.toArray).toList == m.toList) = true then x.1 else qF m.data.toList) :: fieldF ms xs
theorem fieldF_len : ∀ (ms : List ByteArray) (ws : List Ln), (fieldF ms ws).length = ms.length
  | [], _ => by simp [fieldF]
  | m :: ms, [] => by simp [fieldF, fieldF_len ms []]
  | m :: ms, x :: xs => by simp [fieldF, fieldF_len ms xs]
theorem fieldF_none : ∀ ms : List ByteArray, fieldF ms [] = ms.map fun m => qF m.data.toList
  | [] => rfl
  | m :: ms => by simp [fieldF, fieldF_none ms]
theorem fieldF_step : ∀ (ms : List ByteArray) (ws : List Ln) (k : Nat) (x : Ln) (m : ByteArray), ws[k]? = some x → ms[k]? = some m →
    fieldF ms (ws.take (k + 1)) = if ((ByteArray.mk x.2.toArray).toList == m.toList) = true then (fieldF ms (ws.take k)).set k x.1 else fieldF ms (ws.take k)
  | [], _, _, _, _, _, h => by simp at h
  | _ :: _, [], _, _, _, h, _ => by simp at h
  | m0 :: ms, x0 :: xs, 0, x, m, h1, h2 => by
    simp only [List.getElem?_cons_zero, Option.some.injEq] at h1 h2
    subst h1; subst h2
    simp only [Nat.zero_add, List.take_succ_cons, List.take_zero, fieldF]
    split <;> rfl
  | m0 :: ms, x0 :: xs, k + 1, x, m, h1, h2 => by
    simp only [List.getElem?_cons_succ] at h1 h2
    have ih := fieldF_step ms xs k x m h1 h2
    simp only [List.take_succ_cons, fieldF, ih]
    generalize (if ((ByteArray.mk x0.2.toArray).toList == m0.toList) = true then x0.1 else qF m0.data.toList) = y
    split <;> rfl

theorem fieldF_le : ∀ (ms : List ByteArray) (ws : List Ln), (∀ m ∈ ms, m.size ≤ 4000) → (∀ x ∈ ws, x.1.length ≤ 4000) → ∀ l ∈ fieldF ms ws, l.length ≤ 12004
  | [], _, _, _, l, h => by simp [fieldF] at h
  | m :: ms, [], hm, hw, l, h => by
    rw [fieldF] at h
    rcases List.mem_cons.1 h with rfl | h
    · have := qF_len m.data.toList
      have := hm m (by simp)
      have e : m.size = m.data.toList.length := rfl
      omega
    · exact fieldF_le ms [] (fun x hx => hm x (by simp [hx])) hw l h
  | m :: ms, x :: xs, hm, hw, l, h => by
    rw [fieldF] at h
    rcases List.mem_cons.1 h with rfl | h
    · have := qF_len m.data.toList
      have := hm m (by simp)
      have := hw x (by simp)
      have e : m.size = m.data.toList.length := rfl
      split <;> omega
    · exact fieldF_le ms xs (fun x hx => hm x (by simp [hx])) (fun y hy => hw y (by simp [hy])) l h
theorem join_two (sep x y : Bs) (r : List Bs) : Lib.join (x :: y :: r) sep = x ++ (sep ++ Lib.join (y :: r) sep) := by
  simp [Lib.join, List.intercalate, List.intersperse]
theorem join_len (sep : Bs) (N : Nat) : ∀ l : List Bs, (∀ x ∈ l, x.length ≤ N) → (Lib.join l sep).length ≤ l.length * (N + sep.length)
  | [], _ => by rw [Lib.join_nil]; exact Nat.zero_le _
  | [x], h => by
    have := h x (by simp)
    rw [Lib.join_one]
    simp only [List.length_cons, List.length_nil, Nat.zero_add, Nat.one_mul]
    omega
  | x :: y :: r, h => by
    have h1 := h x (by simp)
    have h2 := join_len sep N (y :: r) (fun z hz => h z (List.mem_cons_of_mem _ hz))
    rw [join_two]
    simp only [List.length_append, List.length_cons, Nat.add_mul] at h2 ⊢
    omega

set_option maxHeartbeats 4000000 in
theorem textOf_any (ms : List ByteArray) (ws : List Ln) (A Aw : Option Addr) (n c nw cw : Nat) (w : World) (h : SeesV w w.heap.size A n (ms.map Value.string)) (hw : SeesL w w.heap.size Aw nw ws) (hle : nw ≤ n) (hn : n ≤ 100000) (hz : ∀ m ∈ ms, m.size ≤ 4000 ∧ Pl m) (hwz : ∀ x ∈ ws, x.1.length ≤ 4000) (hG : Gl w) :
    Calls Tryz.prog 34 #[.slice A n c, .slice Aw nw cw] w fun e w' => e = .returned (.string ⟨(Lib.join (fieldF ms ws) [44]).toArray⟩) ∧ Below w.heap.size w w' := by
  have hml : n = ms.length := by have := h.len; rwa [List.length_map] at this
  have hwl := hw.len
  have HE := Lib.hid (eachQ_any ms (ms.map fun m => ByteArray.mk (qF m.data.toList).toArray) A n c w.heap.size w (Nat.le_refl _) hn (by rw [List.length_map]; exact hml) h hml (fun k r hr m hm W hW => by
    rw [List.getElem?_map, hm] at hr
    simp only [Option.map_some, Option.some.injEq] at hr
    subst hr
    have hq := hz m (List.mem_of_getElem? hm)
    exact quoted_any m W hq.1 hq.2 (hG.below hW)))
  have HLe := Lib.hid (join_len [44] 12004 (fieldF ms ws) (fieldF_le ms ws (fun m hm => (hz m hm).1) hwz))
  have HH := Lib.hid h
  have HW := Lib.hid hw
  have Hml := Lib.hid hml
  have Hwl := Lib.hid hwl
  clear h hw hz hwz hG hml hwl
  go_enter Tryz.func34, Tryz.ntmps34
  go_wp2_with fail
  (with_reducible refine HE.out.mono ?_)
  rintro e w1 ⟨g, rfl, hgb, hgc, hb1⟩
  have hg0 : w1.heap[g]? = some (.cells ((fieldF ms (ws.take 0)).map encs).toArray 9 (0, 0)) := by
    rw [hgc, List.take_zero, fieldF_none, List.map_map, List.map_map]; rfl
  have HG0 := Lib.hid hg0
  have HB1 := Lib.hid hb1
  clear hgc hb1 hg0
  go_wp2_with fail
  go_loopw [12] (fun i wr => ∃ (k : Nat), k ≤ nw ∧ i = .int .i64 k ∧ Hid (wr.heap[g]? = some (.cells ((fieldF ms (ws.take k)).map encs).toArray 9 (0, 0))) ∧ Hid (Below w.heap.size w wr)) (fun i _ => nw - (intOf i).toNat)
  case atStart => exact ⟨0, Nat.zero_le _, rfl, HG0, HB1⟩
  case round =>
    obtain ⟨k, hk, rfl, HG, HB⟩ := hrel
    by_cases hlt : k < nw
    · obtain ⟨x, hx⟩ : ∃ x, ws[k]? = some x := ⟨_, List.getElem?_eq_getElem (by have := Hwl.out; omega)⟩
      obtain ⟨m, hm⟩ : ∃ m, ms[k]? = some m := ⟨_, List.getElem?_eq_getElem (by have := Hml.out; omega)⟩
      obtain ⟨b, o, rfl, hbl, hc1, hc2⟩ := (HW.out.below HB.out).at_ hx
      obtain ⟨b', o', rfl, hbl', hc3⟩ := HH.out.cell k (.string m) (by rw [List.getElem?_map, hm]; rfl)
      have hc4 := (HB.out.cell (p := ⟨b', o' + k, none⟩) hbl').trans hc3
      have hc5 := fun oo : Obj => (((Below.refl wr.heap.size wr).alloc (Nat.le_refl _) oo).cell (p := ⟨b', o' + k, none⟩) (Nat.lt_of_lt_of_le hbl' HB.out.size)).trans hc4
      obtain ⟨x1, hx1⟩ : ∃ x1 : ByteArray, encs x.1 = .string x1 := ⟨_, rfl⟩
      obtain ⟨x2, hx2⟩ : ∃ x2 : ByteArray, encs x.2 = .string x2 := ⟨_, rfl⟩
      rw [hx1] at hc1
      rw [hx2] at hc2
      have hst := fieldF_step ms ws k x m hx hm
      have hx2' : ByteArray.mk x.2.toArray = x2 := by injection hx2
      rw [hx2'] at hst
      obtain ⟨u, hu⟩ : ∃ u, u = (x2.toList == m.toList) := ⟨_, rfl⟩
      rw [← hu] at hst
      have hu' : (x2.toList == m.toList) = u := hu.symm
      have hkn : (k : Int) < (nw : Int) := by omega
      have hkm : (k : Int) < (n : Int) := by omega
      have hk0 : (0 : Int) ≤ (k : Int) := by omega
      have hgl := (Array.getElem?_eq_some_iff.1 HG.out).1
      have Hlt := Lib.hid hlt
      have HSt := Lib.hid hst
      have hg1 := fun oo : Obj => (((Below.refl wr.heap.size wr).alloc (Nat.le_refl _) oo).block g hgl).trans HG.out
      have hb1 := fun oo : Obj => (HB.out.alloc (HB.out.size) oo)
      have HG1 := Lib.hid hg1
      have HB2 := Lib.hid hb1
      have Hx1 := Lib.hid hx1
      clear hlt hst hx2' hx hm hu hx1 hx2 hc3 hg1 hb1
      cases u with
      | true =>
        have hkf : k < (fieldF ms (ws.take k)).length := by rw [fieldF_len, ← Hml.out]; omega
        have hcg : ∃ y, ∀ oo : Obj, (wr.alloc oo).cell? ⟨g, k, none⟩ = some y := ⟨encs ((fieldF ms (ws.take k))[k]'hkf), fun oo => by
          rw [cell_of_row _ _ _ _ _ _ (HG1.out oo)]
          simp [hkf]⟩
        obtain ⟨y, hcg⟩ := hcg
        have hfg : ∀ oo : Obj, (wr.alloc oo).frozen? ⟨g, k, none⟩ = false := fun oo => by simp [World.frozen?, HG1.out oo]
        have hg2 : (wr.setCell ⟨g, k, none⟩ (.string x1)).heap[g]? = some (.cells ((fieldF ms (ws.take (k + 1))).map encs).toArray 9 (0, 0)) := by
          rw [heap_setCell_same _ g k _ _ _ HG.out, HSt.out, if_pos rfl, ← Hx1.out, List.map_set]
          simp
        have hg3 := fun oo : Obj => (((Below.refl (wr.setCell ⟨g, k, none⟩ (.string x1)).heap.size (wr.setCell ⟨g, k, none⟩ (.string x1))).alloc (Nat.le_refl _) oo).drew.block g (Array.getElem?_eq_some_iff.1 hg2).1).trans hg2
        have hb3 := HB.out.setCell (p := ⟨g, k, none⟩) hgb (.string x1)
        have HG3 := Lib.hid hg3
        have HB3 := Lib.hid (fun oo : Obj => (hb3.alloc hb3.size oo).drew)
        clear hg2 hb3
        clear hg3
        go_wp2_with fail
        go_region_with (fail)
        all_goals
          go_wp2_with fail
          go_roundw
          case rel => exact ⟨k + 1, Hlt.out, by go_num, Lib.hid (HG3.out _), Lib.hid (HB3.out _)⟩
          case measure => have := Hlt.out; simp [intOf]; omega
      | false =>
        go_wp2_with fail
        go_region_with (fail)
        all_goals
          go_wp2_with fail
          go_roundw
          case rel => exact ⟨k + 1, Hlt.out, by go_num, Lib.hid (by rw [HSt.out, if_neg (by simp)]; exact HG1.out _), Lib.hid (HB2.out _).drew⟩
          case measure => have := Hlt.out; simp [intOf]; omega
    · obtain rfl : k = nw := by omega
      have hfl : n = (fieldF ms ws).length := by rw [fieldF_len]; exact Hml.out
      have hg := HG.out
      rw [List.take_of_length_le (by have := Hwl.out; omega)] at hg
      have hjl : (Lib.join (fieldF ms ws) [44]).length ≤ 140737488355328 := by
        have := HLe.out
        rw [← hfl] at this
        have h2 : n * (12004 + ([44] : Bs).length) ≤ 100000 * 12005 := Nat.mul_le_mul hn (by simp)
        omega
      have HJ := Tryz.strings_Join g 0 n ((fieldF ms ws).map fun l => ByteArray.mk l.toArray) ⟨#[44]⟩ wr (fun j x hx => by
        rw [cell_of_row _ _ _ _ _ _ hg]
        rw [List.getElem?_map] at hx
        cases hf : (fieldF ms ws)[j]? with
        | none => rw [hf] at hx; cases hx
        | some l =>
          rw [hf] at hx
          simp only [Option.map_some, Option.some.injEq] at hx
          subst hx
          simp [hf, encs]) (Array.getElem?_eq_some_iff.1 hg).1
      rw [List.length_map, ← hfl, List.map_map, show ((fun x : ByteArray => x.data.toList) ∘ fun l : Bs => ByteArray.mk l.toArray) = id from funext fun l => by simp, List.map_id] at HJ
      have HJ2 := Lib.hid (HJ (by omega) (Nat.le_refl _) hjl)
      clear HJ hjl hg hfl hlt
      go_wp2_with fail
      (with_reducible refine HJ2.out.mono ?_)
      rintro e w2 ⟨rfl, hb2⟩
      go_wp2_with fail
      go_ret
      exact ⟨rfl, HB.out.trans (hb2.mono HB.out.size)⟩
end Go.Proofs.YtecnilcfhicfmaaGreatDoor.Cv
