/- vfs: Crash. No conditions but that there is no more than 2^40 of anything. -/
import Derived.Test.YtpaaafdnkehmfaaVfFlush
namespace Go.Proofs.Ytpaaafdnkehmfaa.Vf
open Go.RowKit
set_option maxRecDepth 100000

theorem wf_del {k b : BS} : ∀ {l : FL}, Asc l → fnd l k = some b → wf (wth k none l) + (k.length + b.length + 1) = wf l
  | (x, c) :: r, h, hf => by
    unfold fnd at hf
    unfold wth
    split at hf
    · rename_i e
      cases hf
      subst e
      rw [if_neg (List.lt_irrefl _), if_pos rfl]
      show wf r + _ = _
      simp only [wf]; omega
    · rename_i e
      have hx : x < k := by
        rcases lt_tri x k with g | g | g
        · exact g
        · exact absurd g e
        · have := fnd_above (k := k) (l := r) fun y hy => List.lt_trans g (h.head y hy)
          rw [this] at hf; cases hf
      rw [if_pos hx]
      have := wf_del h.tail hf
      simp only [wf]; omega
/-- Files each of which is in one of two rows weigh no more than both. -/
theorem wf_two : ∀ (r : FL) {l f : FL}, Asc r → Asc l → Asc f → (∀ x ∈ r, x ∈ l ∨ x ∈ f) → wf r ≤ wf l + wf f
  | [], _, _, _, _, _, _ => Nat.zero_le _
  | (k, b) :: r, l, f, hr, hl, hf, h => by
    have far : ∀ x ∈ r, x.1 ≠ k := fun x hx => (lt_ne (hr.head x hx)).symm
    have stay : ∀ {m : FL}, Asc m → ∀ x ∈ r, x ∈ m → x ∈ wth k none m := fun hm x hx hxm =>
      mem_of_fnd (k := x.1) (b := x.2) (by rw [fnd_wth_other (far x hx)]; exact fnd_of_mem hm hxm)
    rcases h (k, b) (by simp) with e | e
    · have h1 := wf_del hl (fnd_of_mem hl e)
      have h2 := wf_two r (l := wth k none l) (f := f) hr.tail (asc_wth k none hl) hf fun x hx => (h x (by simp [hx])).imp (stay hl x hx) id
      simp only [wf]; omega
    · have h1 := wf_del hf (fnd_of_mem hf e)
      have h2 := wf_two r (l := l) (f := wth k none f) hr.tail hl (asc_wth k none hf) fun x hx => (h x (by simp [hx])).imp id (stay hf x hx)
      simp only [wf]; omega
theorem fnd_anew_or (f : FL) (k : BS) : ∀ (s : Sn) {l : FL}, Asc l → fnd (anew f s l) k = fnd l k ∨ fnd (anew f s l) k = fnd f k
  | [], _, _ => .inl rfl
  | x :: s, l, ha => by
    have h := fnd_anew_or f k s (asc_wth x.1 (fnd f x.1) ha)
    rw [fnd_wth x.1 k _ ha] at h
    by_cases e : k = x.1
    · rw [if_pos e] at h
      rw [anew]
      rcases h with h | h
      · exact .inr (by rw [h, e])
      · exact .inr h
    · rw [if_neg e] at h
      exact h
theorem wf_anew {f : FL} {s : Sn} {l : FL} (hl : Asc l) (hf : Asc f) : wf (anew f s l) ≤ wf l + wf f := by
  have ha := asc_anew f s hl
  refine wf_two _ ha hl hf fun x hx => ?_
  have hx' := fnd_of_mem (k := x.1) (b := x.2) ha hx
  rcases fnd_anew_or f x.1 s hl with h | h
  · exact .inl (mem_of_fnd (h.symm.trans hx'))
  · exact .inr (mem_of_fnd (h.symm.trans hx'))
section
variable {V : Vm} {w : World} {B p N nk ck : Nat} {Ak : Option Addr} {ks : List Int}
set_option maxHeartbeats 4000000 in
theorem crash_any (h : Vp w B p V) (hl : Lim V N) (hN : N ≤ 274877906944) (hs : Sti w B p Ak nk ks) : Calls Try.prog 20 #[.pointer (some ⟨p, 0, none⟩), .slice Ak nk ck] w (Did (.tuple #[]) (V.crash ks) B p w) := by
  obtain ⟨m1, m2, A, n, c, us, h⟩ := h
  have h := h.parts
  have c4 : w.cell? ⟨p, 4, none⟩ = some (.slice A n c) := h.box.cells 4
  have hd := h.drew
  have hsd : Sti w.drew B p Ak nk ks := ⟨hs.len, hs.cell⟩
  have hrep := replay_any (o := 2) (ck := ck) hd.box rfl rfl hd.f2 hl.asc rfl hd.own hd.row hsd (by have := hl.tot; omega) hd.lt hd.le
  have hn := h.len
  have hsn := hl.since
  have hn40 : n ≤ 1099511627776 := by omega
  have H := Lib.hid h
  have HLim := Lib.hid hl
  have HN := Lib.hid hN
  have HREP := Lib.hid hrep
  have HNL := Lib.hid hn
  clear h hl hN hs hd hsd hrep hn hsn
  go_enter Try.func20, Try.ntmps20
  go_wp2_with fail
  go_region_held3 (fun W => W.cell? ⟨p, 4, none⟩ = some (.slice A n c)) (first | exact c4 | exact d4)
    ((go_at_call 53; (with_reducible refine HREP.out.mono ?_); intro e W1 he; obtain ⟨rfl, hm1, ⟨mv1, hP1⟩, _⟩ := H.out.drew.set2 he; clear he; have d4 : W1.cell? ⟨p, 4, none⟩ = some (.slice A n c) := hP1.box.cells 4; have H1 := Lib.hid hP1; have HM1 := Lib.hid hm1; clear hP1 hm1))
  clear c4
  go_wp2_with fail
  go_loopw [20] (fun i wr => ∃ k : Nat, k ≤ n ∧ i = .int .i64 (k : Int) ∧ Mo B p W1 wr ∧ ∃ mv, VpB wr B p (anew (rep V.since ks V.fl) (V.since.take k) V.now) (rep V.since ks V.fl) V.since V.r4 mv mv1 A n c us) (fun i _ => n - (intOf i).toNat)
  case atStart => exact ⟨0, Nat.zero_le _, rfl, Mo.refl _ _ _, m1, H1.out⟩
  case round =>
    obtain ⟨k, hk, rfl, hmo, mv, hP⟩ := hrel
    by_cases hlt : k < n
    · obtain ⟨g, x, o, A', n', c', rfl, hg, hsl, r0, r1, r2, hbz⟩ := hP.item hlt
      have hkn : (k : Int) < (n : Int) := by omega
      have hk0 : (0 : Int) ≤ (k : Int) := by omega
      have hlim := HLim.out
      have hmem := ws_mem hsl
      have htot := hlim.tot
      have hxl : x.data.toList.length = x.size := Array.length_toList
      have hNN := HN.out
      have hfl := wf_rep V.since ks V.fl
      have huf := used_wf (rep V.since ks V.fl)
      obtain ⟨W3, hW3⟩ : ∃ W, W = wr.alloc (Obj.cells #[.string x, .slice A' n' c', .bool o.isNone] 84) := ⟨_, rfl⟩
      have hb3 : Below wr.heap.size wr W3 := by rw [hW3]; exact (Below.refl _ _).alloc (Nat.le_refl _) _
      have hx3 : Bx W3 wr.heap.size [.string x, .slice A' n' c', .bool o.isNone] 84 := by rw [hW3]; exact Bx.new wr _ _
      have hP3 := hP.below hb3
      have hat := at2_any (s := x) (o := 2) (show W3.drew.cell? ⟨p, 2, none⟩ = some mv1 from hP3.drew.box.cells 2) hP3.drew.f2 (by unfold maxLen; omega)
      have hbd : used (anew (rep V.since ks V.fl) (V.since.take k) V.now) ≤ 549755813888 ∧ (anew (rep V.since ks V.fl) (V.since.take k) V.now).length ≤ 1099511627776 := by
        have h1 := wf_anew (s := V.since.take k) hlim.ascNow (asc_rep V.since ks hlim.asc)
        have h2 := used_wf (anew (rep V.since ks V.fl) (V.since.take k) V.now)
        have h3 : wf V.now ≤ wf V.fl + ws V.since := wf_ops V.since V.fl
        omega
      have hset : ∀ (W : World) (A0 : Option Addr) (c0 : Nat), Below W3.drew.heap.size W3.drew W → Bz W3.drew B (.slice A0 (olen (fnd (rep V.since ks V.fl) x.data.toList)) c0) ((fnd (rep V.since ks V.fl) x.data.toList).getD []) →
          Calls Try.prog 49 #[.pointer (some ⟨p, 0, none⟩), .agg #[.string x, .slice A0 (olen (fnd (rep V.since ks V.fl) x.data.toList)) c0, .bool (fnd (rep V.since ks V.fl) x.data.toList).isNone]] W fun e W' => e = .returned (.tuple #[]) ∧ Mo B p W W' ∧ ∃ mv, VpB W' B p (anew (rep V.since ks V.fl) (V.since.take (k + 1)) V.now) (rep V.since ks V.fl) V.since V.r4 mv mv1 (some ⟨g, 0, none⟩) n c us := by
        intro W A0 c0 hb hz
        have hPW := hP3.drew.below hb
        refine (set_any (o := 0) (s := x) (ob := fnd (rep V.since ks V.fl) x.data.toList) hPW.box rfl rfl hPW.f1 (asc_anew _ _ hlim.ascNow) (by unfold maxLen; omega) (hz.keep (Ks.of hb)) rfl (by have := olen_fnd_le x.data.toList (rep V.since ks V.fl); omega) hbd.2 hPW.lt hPW.le).mono fun e W' he => ?_
        obtain ⟨h1, h2, ⟨mv', h3⟩, _⟩ := hPW.set1 he
        exact ⟨h1, h2, mv', by rw [anew_next hsl]; exact h3⟩
      have x0 : W3.cell? ⟨wr.heap.size, 0, none⟩ = some (.string x) := hx3.cells 0
      have HAT := Lib.hid hat
      have HSET := Lib.hid hset
      have HB3 := Lib.hid hb3
      have HMO := Lib.hid hmo
      have HLT := Lib.hid hlt
      clear hat hset hb3 hmo hP3 hx3 hP hbz hsl hlim hmem htot hxl hNN hfl huf hbd hk hg hlt
      generalize o.isNone = gb at r2 hW3
      generalize olen (fnd (rep V.since ks V.fl) x.data.toList) = k0 at HAT HSET
      generalize (fnd (rep V.since ks V.fl) x.data.toList).isNone = g0 at HAT HSET
      subst hW3
      go_wp2_with fail
      go_region_with (first
        | (go_at_call 50; (with_reducible refine HAT.out.mono ?_); rintro e W4 ⟨A0, c0, rfl, hb0, hb4⟩; have HS4 := Lib.hid (HSET.out W4 A0 c0 hb4 hb0); have HB4 := Lib.hid hb4; clear hb4 hb0)
        | (go_at_call 49; (with_reducible refine HS4.out.mono ?_); rintro e W5 ⟨rfl, hm5, mv5, hP5⟩; have HP5 := Lib.hid hP5; have HM5 := Lib.hid hm5; clear hP5 hm5))
      go_wp2_with fail
      go_roundw
      case rel => exact ⟨k + 1, by have := HLT.out; omega, by go_num, (HMO.out.trans (Mo.of (HB3.out.trans ((below_und HB4.out).mono HB3.out.size)))).trans HM5.out, mv5, HP5.out⟩
      case measure => have := HLT.out; simp [intOf]; omega
    · have hkn : ¬ (k : Int) < (n : Int) := by omega
      have z4 : wr.cell? ⟨p, 4, none⟩ = some (.slice A n c) := hP.box.cells 4
      have f4 := hP.box.free 4
      have z7 : wr.cell? ⟨p, 7, none⟩ = some (.int .i64 V.stop) := hP.box.cells 7
      have f7 := hP.box.free 7
      have z8 : wr.cell? ⟨p, 8, none⟩ = some (.bool V.dead) := hP.box.cells 8
      have f8 := hP.box.free 8
      have hkl : k = V.since.length := by have := HNL.out; omega
      have HP := Lib.hid hP
      have HMO := Lib.hid hmo
      have HKL := Lib.hid hkl
      clear hP hmo hk hlt hkl
      go_wp2_with fail
      go_end0
      have hb9 := ((HP.out.box.set 4 (.slice none 0 0)).set 7 (.int .i64 0)).set 8 (.bool false)
      have hm9 : Mv wr (((wr.setCell ⟨p, 4, none⟩ (.slice none 0 0)).setCell ⟨p, 7, none⟩ (.int .i64 0)).setCell ⟨p, 8, none⟩ (.bool false)) (fun k => k = p ∨ (Value.slice A n c).ownBlock = some k) := (((Mv.setCell _ _ _).trans (Mv.setCell _ _ _)).trans (Mv.setCell _ _ _)).weak fun k _ e => by
        rcases e with (e | e) | e <;> exact .inl e
      obtain ⟨hq, hm10⟩ := HP.out.turn (R' := (V.crash ks).r4) (s' := []) (vs' := []) hm9 hb9 (World.ownsRow_nil _ _ _ _) trivial
      refine ⟨rfl, VpB.whole (V := V.crash ks) (m1 := mv) (m2 := mv1) (A := none) (n := 0) (c := 0) (vs := []) ?_, ((HM1.out.undrew).trans HMO.out).trans hm10⟩
      rw [HKL.out, List.take_length, show anew (rep V.since ks V.fl) V.since V.now = rep V.since ks V.fl from anew_rep V.since ks HLim.out.asc] at hq
      exact hq
end
end Go.Proofs.Ytpaaafdnkehmfaa.Vf
