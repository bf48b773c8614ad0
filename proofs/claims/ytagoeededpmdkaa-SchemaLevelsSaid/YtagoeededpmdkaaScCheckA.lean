/- schema.checkDef, schema.Check and their closures, walked. Conditions: fewer than 4,096 fields, names in each. -/
import Derived.Test.YtagoeededpmdkaaScCheckW
namespace Go.Proofs.Ytagoeededpmdkaa.Sc
open Go.RowKit Go.Proofs.Ytagoeededpmdkaa.Nm
set_option maxRecDepth 100000

set_option maxHeartbeats 1000000 in
theorem checkDef1_any (fs : List Fld) (k : Nat) (f : Fld) (As : Option Addr) (ns cs gs gd : Nat) (b2 o2 n2 c2 : Nat) (A : Option Addr) (n c B : Nat) (w : World) (hB : B ≤ w.heap.size) (hs : SeesV w B A n (f.n.l.map encs)) (hn : n ≤ 4096) (hF : Fs w B (some ⟨b2, o2, none⟩) n2 fs) (hfit : Fit fs) (hn2 : n2 ≤ 4096) (hk : k ≤ n2) (hc2 : n2 ≤ c2)
    (hgs : w.cell? ⟨gs, 0, none⟩ = some (.slice As ns cs)) (hgd : w.cell? ⟨gd, 0, none⟩ = some (.slice (some ⟨b2, o2, none⟩) n2 c2)) :
    Calls Try.prog 143 #[.int .i64 (k : Nat), .agg #[.bool f.n.all, .slice A n c, .int .i64 f.to, .bool f.need], .pointer (some ⟨gs, 0, none⟩), .pointer (some ⟨gd, 0, none⟩)] w fun e w' => e = .returned (.int .i64 (fldC ns (fs.take k) f)) ∧ Below w.heap.size w w' := by
  have hgsl := block_lt hgs
  have hgdl := block_lt hgd
  simp only at hgsl hgdl
  obtain ⟨W1, hW1⟩ : ∃ W, W = w.alloc (Obj.cells #[Value.bool f.n.all, Value.slice A n c, Value.int .i64 f.to, Value.bool f.need] 83) := ⟨_, rfl⟩
  have g0 : W1.heap[w.heap.size]? = some (Obj.cells #[Value.bool f.n.all, Value.slice A n c, Value.int .i64 f.to, Value.bool f.need] 83) := by rw [hW1, heap_alloc_new]
  have hb1 : Below w.heap.size w W1 := by rw [hW1]; exact (Below.refl _ _).alloc (Nat.le_refl _) _
  have hd1 : Below W1.heap.size W1 W1.drew := (Below.refl _ _).drew
  have hbd := hb1.trans (hd1.mono hb1.size)
  have HC := Lib.hid (field_any (fs.take k) f As ns cs (some ⟨b2, o2, none⟩) k c2 A n c B W1.drew (Nat.le_trans hB hbd.size) (hs.below (hbd.mono hB)) hn ((hF.take hk).below (hbd.mono hB)) (hfit.take k) (by omega))
  obtain ⟨v, hv⟩ : ∃ v, v = fldC ns (fs.take k) f := ⟨_, rfl⟩
  rw [← hv] at HC ⊢
  have q0 := (hb1.cell (p := ⟨gs, 0, none⟩) hgsl).trans hgs
  have q1 := (hb1.cell (p := ⟨gd, 0, none⟩) hgdl).trans hgd
  obtain ⟨p0, p1, p2, p3⟩ := box4 g0
  have hk0 : (0 : Int) ≤ (k : Int) := by omega
  have hkc : (k : Int) ≤ (c2 : Int) := by omega
  have HBd := Lib.hid hbd
  have HK := Lib.hid (fun W (hb : Below W1.drew.heap.size W1.drew W) => have hb' : Below W1.heap.size W1 W := hd1.trans (hb.mono (Nat.le_refl _)); (⟨(hb'.cell (p := ⟨gs, 0, none⟩) (block_lt q0)).trans q0, (hb'.cell (p := ⟨gd, 0, none⟩) (block_lt q1)).trans q1, (hb'.cell (p := ⟨w.heap.size, 0, none⟩) (block_lt p0)).trans p0, (hb'.cell (p := ⟨w.heap.size, 1, none⟩) (block_lt p1)).trans p1, (hb'.cell (p := ⟨w.heap.size, 2, none⟩) (block_lt p2)).trans p2, (hb'.cell (p := ⟨w.heap.size, 3, none⟩) (block_lt p3)).trans p3⟩ : W.cell? ⟨gs, 0, none⟩ = some (.slice As ns cs) ∧ W.cell? ⟨gd, 0, none⟩ = some (.slice (some ⟨b2, o2, none⟩) n2 c2) ∧ W.cell? ⟨w.heap.size, 0, none⟩ = some (.bool f.n.all) ∧ W.cell? ⟨w.heap.size, 1, none⟩ = some (.slice A n c) ∧ W.cell? ⟨w.heap.size, 2, none⟩ = some (.int .i64 f.to) ∧ W.cell? ⟨w.heap.size, 3, none⟩ = some (.bool f.need)))
  clear hv hs hF hfit g0 hb1 hd1 hbd
  go_enter Try.func143, Try.ntmps143
  go_wp2_with fail
  rw [← hW1]
  clear hW1
  go_region_held3 (fun w' => w'.cell? ⟨gs, 0, none⟩ = some (.slice As ns cs) ∧ w'.cell? ⟨gd, 0, none⟩ = some (.slice (some ⟨b2, o2, none⟩) n2 c2) ∧ w'.cell? ⟨w.heap.size, 0, none⟩ = some (.bool f.n.all) ∧ w'.cell? ⟨w.heap.size, 1, none⟩ = some (.slice A n c) ∧ w'.cell? ⟨w.heap.size, 2, none⟩ = some (.int .i64 f.to) ∧ w'.cell? ⟨w.heap.size, 3, none⟩ = some (.bool f.need))
    (first | exact HK.out _ hb2 | exact ⟨q0, q1, p0, p1, p2, p3⟩)
    ((go_at_call 144; (with_reducible refine HC.out.mono ?_); rintro e w2 ⟨rfl, hb2⟩))
  all_goals
    go_wp2_with fail
    go_ret
    exact ⟨rfl, HBd.out.trans (hb2.mono HBd.out.size)⟩

theorem fsC_step {defs : Nat} {fs : List Fld} {k : Nat} {f : Fld} (h : fs[k]? = some f) : fsC defs (fs.take k) (fs.drop k) = if fldC defs (fs.take k) f = 0 then fsC defs (fs.take (k + 1)) (fs.drop (k + 1)) else fldC defs (fs.take k) f := by
  have hk : k < fs.length := (List.getElem?_eq_some_iff.1 h).1
  rw [List.drop_eq_getElem_cons hk]
  have e : fs[k] = f := by rw [List.getElem?_eq_getElem hk] at h; exact Option.some.inj h
  rw [e, List.take_add_one, h]
  rfl

set_option maxHeartbeats 2000000 in
theorem firstF_any (fs : List Fld) (As : Option Addr) (ns cs gs gd : Nat) (A2 : Option Addr) (n2 c2 B : Nat) (w : World) (hB : B ≤ w.heap.size) (hF : Fs w B A2 n2 fs) (hfit : Fit fs) (hn2 : n2 ≤ 4096) (hc2 : n2 ≤ c2)
    (hgs : w.cell? ⟨gs, 0, none⟩ = some (.slice As ns cs)) (hgd : w.cell? ⟨gd, 0, none⟩ = some (.slice A2 n2 c2)) :
    Calls Try.prog 142 #[.slice A2 n2 c2, .func (.func 143) #[] #[.pointer (some ⟨gs, 0, none⟩), .pointer (some ⟨gd, 0, none⟩)]] w fun e w' => e = .returned (.int .i64 (fsC ns [] fs)) ∧ Below w.heap.size w w' := by
  have hgsl := block_lt hgs
  have hgdl := block_lt hgd
  simp only at hgsl hgdl
  have Hl := Lib.hid hF.len
  obtain ⟨r, hr⟩ : ∃ r, r = fsC ns [] fs := ⟨_, rfl⟩
  have Hr := Lib.hid hr
  rw [← hr]
  have HX := Lib.hid hfit
  clear hr hfit
  go_enter Try.func142, Try.ntmps142
  go_wp2_with fail
  go_loopw [10] (fun i wr => ∃ k : Nat, k ≤ n2 ∧ i = .int .i64 k ∧ Hid (fsC ns (fs.take k) (fs.drop k) = r) ∧ Below w.heap.size w wr) (fun i _ => n2 - (intOf i).toNat)
  case atStart => exact ⟨0, Nat.zero_le _, rfl, Lib.hid (by rw [Hr.out]; rfl), Below.refl _ _⟩
  case round =>
    obtain ⟨k, hk, rfl, H, hbw⟩ := hrel
    by_cases hlt : k < n2
    · obtain ⟨b, o, f, A3, n3, c3, rfl, hb, hf, f1, f2, f3, f4, hS, f5, f6⟩ := (hF.below (hbw.mono hB)).at hlt
      have Hs := Lib.hid hf
      have hn3 : n3 ≤ 4096 := by
        have h1 := hS.len
        rw [List.length_map] at h1
        rw [h1]
        exact HX.out f (List.mem_of_getElem? hf)
      have hkn : (k : Int) < (n2 : Int) := by omega
      have hk0 : (0 : Int) ≤ (k : Int) := by omega
      have hsz := hbw.size
      obtain ⟨W1, hW1⟩ : ∃ W, W = wr.alloc (Obj.cells #[Value.bool f.n.all, Value.slice A3 n3 c3, Value.int .i64 f.to, Value.bool f.need] 83) := ⟨_, rfl⟩
      have g0 : W1.heap[wr.heap.size]? = some (Obj.cells #[Value.bool f.n.all, Value.slice A3 n3 c3, Value.int .i64 f.to, Value.bool f.need] 83) := by rw [hW1, heap_alloc_new]
      have hb1 : Below wr.heap.size wr W1 := by rw [hW1]; exact (Below.refl _ _).alloc (Nat.le_refl _) _
      have hbW := hbw.trans (hb1.mono hsz)
      have HC := Lib.hid (checkDef1_any fs k f As ns cs gs gd b o n2 c2 A3 n3 c3 B W1 (Nat.le_trans hB hbW.size) (hS.below (hb1.mono (Nat.le_trans hB hsz))) hn3 (hF.below (hbW.mono hB)) HX.out hn2 hk hc2 ((hbW.cell (p := ⟨gs, 0, none⟩) hgsl).trans hgs) ((hbW.cell (p := ⟨gd, 0, none⟩) hgdl).trans hgd))
      obtain ⟨q0, q1, q2, q3⟩ := box4 g0
      have HBW := Lib.hid hbW
      obtain ⟨v, hv⟩ : ∃ v, v = fldC ns (fs.take k) f := ⟨_, rfl⟩
      have Hq : Hid (r = if v = 0 then fsC ns (fs.take (k + 1)) (fs.drop (k + 1)) else v) := Lib.hid (by rw [hv, ← fsC_step Hs.out, H.out])
      rw [← hv] at HC
      clear hv hf hS hbW hb1 g0 f5 f6
      by_cases h0 : v = 0
      · have H2 : Hid (fsC ns (fs.take (k + 1)) (fs.drop (k + 1)) = r) := Lib.hid (by rw [Hq.out, if_pos h0])
        subst h0
        go_wp2_with fail
        rw [← hW1]
        go_wp2_with fail
        (with_reducible refine HC.out.mono ?_)
        rintro e w1 ⟨rfl, hb2⟩
        go_wp2_with fail
        go_roundw
        case rel => exact ⟨k + 1, by omega, by go_num, H2, HBW.out.trans (hb2.mono HBW.out.size)⟩
        case measure => simp [intOf]; omega
      · have hr2 : r = v := by rw [Hq.out, if_neg h0]
        subst hr2
        have hne : (r != 0) = true := by rw [bne_iff_ne]; exact h0
        have H0 := Lib.hid h0
        clear h0
        go_wp2_with fail
        rw [← hW1]
        go_wp2_with fail
        (with_reducible refine HC.out.mono ?_)
        rintro e w1 ⟨rfl, hb2⟩
        go_wp2_with fail
        go_ret
        exact ⟨rfl, HBW.out.trans (hb2.mono HBW.out.size)⟩
    · obtain rfl : k = n2 := by omega
      have hr2 : r = 0 := by
        have := H.out
        rw [List.drop_of_length_le (by rw [← Hl.out]; exact Nat.le_refl _)] at this
        rw [← this]
        rfl
      subst hr2
      go_wp2_with fail
      go_ret
      exact ⟨rfl, hbw⟩

set_option maxHeartbeats 1000000 in
theorem checkDef_any (d : Df) (As : Option Addr) (ns cs : Nat) (A2 : Option Addr) (n2 c2 B : Nat) (w : World) (hB : B ≤ w.heap.size) (hF : Fs w B A2 n2 d.fs) (hfit : Fit d.fs) (hn2 : n2 ≤ 4096) (hc2 : n2 ≤ c2) :
    Calls Try.prog 99 #[.slice As ns cs, .agg #[.slice A2 n2 c2, .bool d.one, .bool d.some]] w fun e w' => e = .returned (.int .i64 (dfC ns d)) ∧ Below w.heap.size w w' := by
  obtain ⟨W1, hW1, g0, g1, gs, gb⟩ := two w (Obj.cells #[Value.slice As ns cs] 72) (Obj.cells #[Value.slice A2 n2 c2, Value.bool d.one, Value.bool d.some] 80)
  have HC := Lib.hid (firstF_any d.fs As ns cs w.heap.size (w.heap.size + 1) A2 n2 c2 B W1 (Nat.le_trans hB gb.size) (hF.below (gb.mono hB)) hfit hn2 hc2 (box1 g0) (box3 g1).1)
  have hlen := hF.len
  obtain ⟨v, hv⟩ : ∃ v, v = fsC ns [] d.fs := ⟨_, rfl⟩
  obtain ⟨r, hr⟩ : ∃ r, r = dfC ns d := ⟨_, rfl⟩
  have Hr : Hid (r = if 6 < n2 then 4 else v) := Lib.hid (by rw [hr, hv, hlen]; rfl)
  rw [← hv] at HC
  rw [← hr]
  have u0 := box1 g0
  obtain ⟨u1, u2, u3⟩ := box3 g1
  have HB1 := Lib.hid gb
  have hW1' := Lib.hid hW1
  clear hv hr hF hfit hlen g0 g1 gb gs
  by_cases c1 : 6 < n2
  · have hr : r = 4 := by rw [Hr.out, if_pos c1]
    subst hr
    have c1' : (6 : Int) < (n2 : Int) := by omega
    clear hW1
    go_enter Try.func99, Try.ntmps99
    go_wp2_with fail
    go_ret
    exact ⟨rfl, by rw [← hW1'.out]; exact HB1.out⟩
  · have hr : r = v := by rw [Hr.out, if_neg c1]
    subst hr
    have c1' : (n2 : Int) ≤ 6 := by omega
    clear hW1
    go_enter Try.func99, Try.ntmps99
    go_wp2_with fail
    rw [← hW1'.out]
    (with_reducible refine HC.out.mono ?_)
    rintro e w2 ⟨rfl, hb2⟩
    go_wp2_with fail
    go_ret
    exact ⟨rfl, HB1.out.trans (hb2.mono HB1.out.size)⟩

theorem check1_any (d : Df) (i : Int) (As : Option Addr) (ns cs gs : Nat) (A2 : Option Addr) (n2 c2 B : Nat) (w : World) (hB : B ≤ w.heap.size) (hF : Fs w B A2 n2 d.fs) (hfit : Fit d.fs) (hn2 : n2 ≤ 4096) (hc2 : n2 ≤ c2) (hgs : w.cell? ⟨gs, 0, none⟩ = some (.slice As ns cs)) :
    Calls Try.prog 98 #[.int .i64 i, .agg #[.slice A2 n2 c2, .bool d.one, .bool d.some], .pointer (some ⟨gs, 0, none⟩)] w fun e w' => e = .returned (.int .i64 (dfC ns d)) ∧ Below w.heap.size w w' := by
  have hgsl := block_lt hgs
  simp only at hgsl
  obtain ⟨W1, hW1⟩ : ∃ W, W = w.alloc (Obj.cells #[Value.slice A2 n2 c2, Value.bool d.one, Value.bool d.some] 80) := ⟨_, rfl⟩
  have hb1 : Below w.heap.size w W1 := by rw [hW1]; exact (Below.refl _ _).alloc (Nat.le_refl _) _
  have HC := Lib.hid (checkDef_any d As ns cs A2 n2 c2 B W1 (Nat.le_trans hB hb1.size) (hF.below (hb1.mono hB)) hfit hn2 hc2)
  obtain ⟨v, hv⟩ : ∃ v, v = dfC ns d := ⟨_, rfl⟩
  rw [← hv] at HC ⊢
  have HB1 := Lib.hid hb1
  have HW1 := Lib.hid hW1
  clear hv hF hfit hb1 hW1
  go_enter Try.func98, Try.ntmps98
  go_wp2_with fail
  rw [← HW1.out]
  (with_reducible refine HC.out.mono ?_)
  rintro e w2 ⟨rfl, hb2⟩
  go_wp2_with fail
  go_ret
  exact ⟨rfl, HB1.out.trans (hb2.mono HB1.out.size)⟩

theorem dsC_step {defs : Nat} {s : List Df} {k : Nat} {d : Df} (h : s[k]? = some d) : dsC defs (s.drop k) = if dfC defs d = 0 then dsC defs (s.drop (k + 1)) else dfC defs d := by
  have hk : k < s.length := (List.getElem?_eq_some_iff.1 h).1
  rw [List.drop_eq_getElem_cons hk]
  have e : s[k] = d := by rw [List.getElem?_eq_getElem hk] at h; exact Option.some.inj h
  rw [e]
  rfl

set_option maxHeartbeats 2000000 in
theorem firstD_any (s : List Df) (As : Option Addr) (n c gs B : Nat) (w : World) (hB : B ≤ w.heap.size) (hS : Ds w B As n s) (hfit : FitS s) (_ : n ≤ 4096) (hgs : w.cell? ⟨gs, 0, none⟩ = some (.slice As n c)) :
    Calls Try.prog 97 #[.slice As n c, .func (.func 98) #[] #[.pointer (some ⟨gs, 0, none⟩)]] w fun e w' => e = .returned (.int .i64 (dsC n s)) ∧ Below w.heap.size w w' := by
  have hgsl := block_lt hgs
  simp only at hgsl
  have Hl := Lib.hid hS.len
  obtain ⟨r, hr⟩ : ∃ r, r = dsC n s := ⟨_, rfl⟩
  have Hr := Lib.hid hr
  rw [← hr]
  have HX := Lib.hid hfit
  clear hr hfit
  go_enter Try.func97, Try.ntmps97
  go_wp2_with fail
  go_loopw [10] (fun i wr => ∃ k : Nat, k ≤ n ∧ i = .int .i64 k ∧ Hid (dsC n (s.drop k) = r) ∧ Below w.heap.size w wr) (fun i _ => n - (intOf i).toNat)
  case atStart => exact ⟨0, Nat.zero_le _, rfl, Lib.hid (by rw [Hr.out]; rfl), Below.refl _ _⟩
  case round =>
    obtain ⟨k, hk, rfl, H, hbw⟩ := hrel
    by_cases hlt : k < n
    · obtain ⟨b, o, d, A2, n2, c2, rfl, hb, hd, f1, f2, f3, hF, f5, f6⟩ := (hS.below (hbw.mono hB)).at hlt
      have Hs := Lib.hid hd
      have hdm := HX.out d (List.mem_of_getElem? hd)
      have hn2 : n2 ≤ 4096 := by rw [hF.len]; exact hdm.1
      have hkn : (k : Int) < (n : Int) := by omega
      have hk0 : (0 : Int) ≤ (k : Int) := by omega
      have hsz := hbw.size
      obtain ⟨W1, hW1⟩ : ∃ W, W = wr.alloc (Obj.cells #[Value.slice A2 n2 c2, Value.bool d.one, Value.bool d.some] 80) := ⟨_, rfl⟩
      have g0 : W1.heap[wr.heap.size]? = some (Obj.cells #[Value.slice A2 n2 c2, Value.bool d.one, Value.bool d.some] 80) := by rw [hW1, heap_alloc_new]
      have hb1 : Below wr.heap.size wr W1 := by rw [hW1]; exact (Below.refl _ _).alloc (Nat.le_refl _) _
      have hbW := hbw.trans (hb1.mono hsz)
      have HC := Lib.hid (fun i : Int => check1_any d i (some ⟨b, o, none⟩) n c gs A2 n2 c2 B W1 (Nat.le_trans hB hbW.size) (hF.below (hb1.mono (Nat.le_trans hB hsz))) hdm.2 hn2 f5 ((hbW.cell (p := ⟨gs, 0, none⟩) hgsl).trans hgs))
      obtain ⟨q0, q1, q2⟩ := box3 g0
      have HBW := Lib.hid hbW
      obtain ⟨v, hv⟩ : ∃ v, v = dfC n d := ⟨_, rfl⟩
      have Hq : Hid (r = if v = 0 then dsC n (s.drop (k + 1)) else v) := Lib.hid (by rw [hv, ← dsC_step Hs.out, H.out])
      rw [← hv] at HC
      clear hv hd hF hbW hb1 g0 f5 f6 hdm
      by_cases h0 : v = 0
      · have H2 : Hid (dsC n (s.drop (k + 1)) = r) := Lib.hid (by rw [Hq.out, if_pos h0])
        subst h0
        go_wp2_with fail
        rw [← hW1]
        go_wp2_with fail
        (with_reducible refine (HC.out _).mono ?_)
        rintro e w1 ⟨rfl, hb2⟩
        go_wp2_with fail
        go_roundw
        case rel => exact ⟨k + 1, by omega, by go_num, H2, HBW.out.trans (hb2.mono HBW.out.size)⟩
        case measure => simp [intOf]; omega
      · have hr2 : r = v := by rw [Hq.out, if_neg h0]
        subst hr2
        have hne : (r != 0) = true := by rw [bne_iff_ne]; exact h0
        have H0 := Lib.hid h0
        clear h0
        go_wp2_with fail
        rw [← hW1]
        go_wp2_with fail
        (with_reducible refine (HC.out _).mono ?_)
        rintro e w1 ⟨rfl, hb2⟩
        go_wp2_with fail
        go_ret
        exact ⟨rfl, HBW.out.trans (hb2.mono HBW.out.size)⟩
    · obtain rfl : k = n := by omega
      have hr2 : r = 0 := by
        have := H.out
        rw [List.drop_of_length_le (by rw [← Hl.out]; exact Nat.le_refl _)] at this
        rw [← this]
        rfl
      subst hr2
      go_wp2_with fail
      go_ret
      exact ⟨rfl, hbw⟩

set_option maxHeartbeats 1000000 in
theorem check_any (s : List Df) (As : Option Addr) (n c B : Nat) (w : World) (hB : B ≤ w.heap.size) (hS : Ds w B As n s) (hfit : FitS s) (hn : n ≤ 4096) :
    Calls Try.prog 49 #[.slice As n c] w fun e w' => e = .returned (.int .i64 (chk s)) ∧ Below w.heap.size w w' := by
  obtain ⟨W1, hW1⟩ : ∃ W, W = w.alloc (Obj.cells #[Value.slice As n c] 72) := ⟨_, rfl⟩
  have g0 : W1.heap[w.heap.size]? = some (Obj.cells #[Value.slice As n c] 72) := by rw [hW1, heap_alloc_new]
  have hb1 : Below w.heap.size w W1 := by rw [hW1]; exact (Below.refl _ _).alloc (Nat.le_refl _) _
  have HC := Lib.hid (firstD_any s As n c w.heap.size B W1 (Nat.le_trans hB hb1.size) (hS.below (hb1.mono hB)) hfit hn (box1 g0))
  have hlen := hS.len
  obtain ⟨v, hv⟩ : ∃ v, v = dsC n s := ⟨_, rfl⟩
  obtain ⟨r, hr⟩ : ∃ r, r = chk s := ⟨_, rfl⟩
  have Hr : Hid (r = if n = 0 then 2 else if 12 < n then 4 else v) := Lib.hid (by rw [hr, hv, hlen]; rfl)
  rw [← hv] at HC
  rw [← hr]
  have u0 := box1 g0
  have HB1 := Lib.hid hb1
  have HW1 := Lib.hid hW1
  clear hv hr hS hfit hlen g0 hb1 hW1
  by_cases c0 : n = 0
  · have hr : r = 2 := by rw [Hr.out, if_pos c0]
    subst hr
    have hq : ((n : Int) == 0) = true := by rw [c0]; rfl
    clear c0
    go_enter Try.func49, Try.ntmps49
    go_wp2_with fail
    go_ret
    exact ⟨rfl, by rw [← HW1.out]; exact HB1.out⟩
  · have hq : ((n : Int) == 0) = false := by rw [beq_eq_false_iff_ne]; omega
    by_cases c1 : 12 < n
    · have hr : r = 4 := by rw [Hr.out, if_neg c0, if_pos c1]
      subst hr
      have c1' : (12 : Int) < (n : Int) := by omega
      clear c0
      go_enter Try.func49, Try.ntmps49
      go_wp2_with fail
      go_ret
      exact ⟨rfl, by rw [← HW1.out]; exact HB1.out⟩
    · have hr : r = v := by rw [Hr.out, if_neg c0, if_neg c1]
      subst hr
      have c1' : (n : Int) ≤ 12 := by omega
      clear c0
      go_enter Try.func49, Try.ntmps49
      go_wp2_with fail
      rw [← HW1.out]
      (with_reducible refine HC.out.mono ?_)
      rintro e w2 ⟨rfl, hb2⟩
      go_wp2_with fail
      go_ret
      exact ⟨rfl, HB1.out.trans (hb2.mono HB1.out.size)⟩
end Go.Proofs.Ytagoeededpmdkaa.Sc
