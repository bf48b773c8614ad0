/- quote: a name, quoted, behind bytes of the call's own. Conditions: lengths below 2^40. -/
import Derived.Test.YtclgemkdlgpekaaGrow
import Derived.Deep.RegionLaw
import Derived.Outline
namespace Go.Proofs.Ytclgemkdlgpekaa
open Go.RowKit
set_option maxRecDepth 100000

/-- A digit, a byte, a text as quote writes them. -/
def dig16 (n : Nat) : UInt8 := (UInt8.ofNat (if n < 10 then 48 + n else 87 + n))
def quoB (c : UInt8) : List UInt8 :=
  if c.toNat = 34 ∨ c.toNat = 92 then [92, c] else if c.toNat < 32 ∨ 126 < c.toNat then [92, 120, dig16 (c.toNat / 16), dig16 (c.toNat % 16)] else [c]
def quoL (l : List UInt8) : List UInt8 := l.flatMap quoB
def quo (l : List UInt8) : List UInt8 := [34] ++ quoL l ++ [34]
theorem quoB_le (c : UInt8) : (quoB c).length ≤ 4 := by
  unfold quoB
  split
  · simp
  · split <;> simp
theorem quoL_le (l : List UInt8) : (quoL l).length ≤ 4 * l.length := by
  induction l with
  | nil => exact Nat.le_refl _
  | cons c l ih =>
    have := quoB_le c
    simp only [quoL, List.flatMap_cons, List.length_append, List.length_cons] at ih ⊢
    omega

/-- From w0 to w a row (at A now) was grown: nothing else that lay has turned. -/
structure Grew (w0 w : World) (row : Option Nat) (A : Option Addr) : Prop where
  by_ : w0.grownBy w row
  at_ : ∀ a, A = some a → w0.heap.size ≤ a.block ∨ some a.block = row
theorem Grew.refl (w : World) (A : Option Addr) (n c : Nat) : Grew w w (Value.slice A n c).ownBlock A :=
  ⟨World.grownBy.refl w _, fun a ha => .inr (by subst ha; rfl)⟩
theorem Grew.alloc {w0 w : World} {row : Option Nat} {A : Option Addr} (h : Grew w0 w row A) (o : Obj) : Grew w0 (w.alloc o) row A :=
  ⟨⟨h.by_.os, h.by_.tape, h.by_.output, by simp; exact Nat.le_succ_of_le h.by_.size, fun k hk hn => (Below.heap_alloc w o k (by have := h.by_.size; omega)).trans (h.by_.block k hk hn)⟩, h.at_⟩
theorem Grew.drew {w0 w : World} {row : Option Nat} {A : Option Addr} (h : Grew w0 w row A) : Grew w0 w.drew row A := ⟨⟨h.by_.os, h.by_.tape, h.by_.output, h.by_.size, h.by_.block⟩, h.at_⟩
theorem Grew.step {w0 w w' : World} {row : Option Nat} {A A' : Option Addr} {n c : Nat} (h : Grew w0 w row A) (hg : w.grownBy w' (Value.slice A n c).ownBlock) (hat : ∀ a, A' = some a → a.block = w.heap.size ∨ some a.block = (Value.slice A n c).ownBlock) : Grew w0 w' row A' := by
  have hs := h.by_.size
  refine ⟨⟨hg.os.trans h.by_.os, hg.tape.trans h.by_.tape, hg.output.trans h.by_.output, Nat.le_trans hs hg.size, fun k hk hn => (hg.block k (by omega) (fun e => ?_)).trans (h.by_.block k hk hn)⟩, fun a ha => ?_⟩
  · cases A with
    | none => simp [Value.ownBlock] at e
    | some a =>
      simp only [Value.ownBlock, Option.some.injEq] at e
      rcases h.at_ a rfl with h1 | h1
      · omega
      · exact hn (by rw [e]; exact h1)
  · rcases hat a ha with e | e
    · exact .inl (by omega)
    · cases A with
      | none => simp [Value.ownBlock] at e
      | some a1 =>
        simp only [Value.ownBlock, Option.some.injEq] at e
        rcases h.at_ a1 rfl with h1 | h1
        · exact .inl (by omega)
        · exact .inr (by rw [e]; exact h1)

theorem take_snoc_ (s : ByteArray) (k : Nat) (h : k < s.size) : s.data.toList.take (k + 1) = s.data.toList.take k ++ [s[k]] := by
  rw [List.take_succ_eq_append_getElem (by simpa using h)]; rfl
theorem quoL_snoc (l : List UInt8) (c : UInt8) : quoL (l ++ [c]) = quoL l ++ quoB c := by simp [quoL]

/-- The digits. -/
theorem digits_at (d : Nat) (hd : d < 16) (h : d < (ByteArray.mk #[48, 49, 50, 51, 52, 53, 54, 55, 56, 57, 97, 98, 99, 100, 101, 102]).size) : (ByteArray.mk #[48, 49, 50, 51, 52, 53, 54, 55, 56, 57, 97, 98, 99, 100, 101, 102])[d] = dig16 d := by
  have : d = 0 ∨ d = 1 ∨ d = 2 ∨ d = 3 ∨ d = 4 ∨ d = 5 ∨ d = 6 ∨ d = 7 ∨ d = 8 ∨ d = 9 ∨ d = 10 ∨ d = 11 ∨ d = 12 ∨ d = 13 ∨ d = 14 ∨ d = 15 := by omega
  rcases this with rfl | rfl | rfl | rfl | rfl | rfl | rfl | rfl | rfl | rfl | rfl | rfl | rfl | rfl | rfl | rfl <;> rfl
theorem and_15 (c : Nat) (hc : c < 256) : bits .and .u8 (c : Int) 15 = (c : Int) % 16 := by
  show IntKind.u8.wrap (((BitVec.ofInt 8 c &&& BitVec.ofInt 8 15).toNat : Nat) : Int) = _
  have e : (BitVec.ofInt 8 15).toNat = 2 ^ 4 - 1 := by decide
  have h : ((BitVec.ofInt 8 (c : Int)).toNat : Int) = c := by
    rw [BitVec.toNat_ofInt]
    omega
  rw [BitVec.toNat_and, e, Nat.and_two_pow_sub_one_eq_mod, IntKind.wrap_u8]
  omega

set_option maxHeartbeats 1000000 in
theorem quote_of (base : Nat) (row : Option Nat) (A A1 : Option Addr) (n c N1 c1 : Nat) (l : List UInt8) (s : ByteArray) (w w1 : World) (hb : base ≤ w.heap.size) (hsz : l.length + 4 * s.size ≤ 549755813888)
    (hrun : (Builtin.append_ #[31, 31] 31 #[.slice A n c, .slice (some ⟨w.heap.size, 0, none⟩) 1 1]).run Try.prog (w.alloc (.cells #[.int .u8 34] 5)) = .ok (.slice A1 N1 c1) w1)
    (ho1 : Own w1 base A1 N1 c1 (l ++ [34])) (hG1 : Grew w w1 row A1) :
    Calls Try.prog 36 #[.slice A n c, .string s] w fun e w' => ∃ A' N c', e = .returned (.slice A' N c') ∧ Own w' base A' N c' (l ++ quo s.data.toList) ∧ Grew w w' row A' := by
  have Hrun := Lib.hid hrun
  clear hrun
  go_enter Try.func36, Try.ntmps36
  go_wp2_with (at_builtin; refine Lib.wpList_append_run _ rfl (.tmp 7) (.tmp 8) _ _ rfl _ _ rfl rfl _ _ Hrun.out ?_)
  go_loopw [0, 12] (fun b i wr => ∃ (k : Nat) (A' : Option Addr) (N c' : Nat), k ≤ s.size ∧ i = .int .i64 k ∧ b = .slice A' N c' ∧ Own wr base A' N c' (l ++ [34] ++ quoL (s.data.toList.take k)) ∧ Grew w wr row A') (fun _ i _ => s.size - (intOf i).toNat)
  case atStart => exact ⟨0, A1, N1, c1, by omega, rfl, rfl, by simpa [quoL] using ho1, hG1⟩
  case round =>
    obtain ⟨k, A', N, c', hk, rfl, rfl, hor, hGr⟩ := hrel
    by_cases hlt : k < s.size
    · have hq := quoL_le (s.data.toList.take k)
      have hql := hor.len
      simp only [List.length_append, List.length_cons, List.length_nil, List.length_take, Array.length_toList] at hq hql
      have hN : N + 4 ≤ 70368744177664 := by have : s.data.size = s.size := rfl; omega
      have hbr : base ≤ wr.heap.size := by have := hGr.by_.size; omega
      have hts := take_snoc_ s k hlt
      have HS : Hid (quoL (s.data.toList.take (k + 1)) = quoL (s.data.toList.take k) ++ quoB s[k]) := by rw [hts]; exact quoL_snoc _ _
      clear hts hq hql
      have hu := s[k].toNat_lt
      by_cases h1 : s[k].toNat = 34 ∨ s[k].toNat = 92
      · have hB : quoB s[k] = [92, s[k]] := by unfold quoB; rw [if_pos h1]
        have HB := Lib.hid hB
        clear hB
        have hr2 := hor.alloc (.cells #[.int .u8 92, .int .u8 (s[k].toNat : Int)] 5)
        have hx2 : From Try.prog (wr.alloc (.cells #[.int .u8 92, .int .u8 (s[k].toNat : Int)] 5)) 31 (.slice (some ⟨wr.heap.size, 0, none⟩) 2 2) 2 [92, s[k]] := From.sees (Own.lit wr [92, s[k]] 2 (Nat.le_refl _) (by simp [maxLen]) rfl).sees
        have hb2 : base ≤ (wr.alloc (.cells #[.int .u8 92, .int .u8 (s[k].toNat : Int)] 5)).heap.size := by simp; omega
        by_cases h3 : s[k].toNat = 34
        · have h34 : ((s[k].toNat : Int) == 34) = true := by simp; omega
          clear h1 h3
          go_wp2_with (at_builtin; refine wpList_append_from rfl (.tmp 29) (.tmp 31) _ rfl rfl rfl hr2 hx2 (by omega) hb2 ?_; intro A2 N2 c2 w2 ho2 hg2 hat2)
          go_roundw
          case rel => exact ⟨k + 1, _, _, _, by omega, by go_num, rfl, by rw [HS.out, HB.out]; simpa using ho2, (hGr.alloc _).step hg2 hat2⟩
          case measure => simp [intOf]; omega
        · have h34 : ((s[k].toNat : Int) == 34) = false := by simp; omega
          have h92 : ((s[k].toNat : Int) == 92) = true := by simp; omega
          clear h1 h3
          go_wp2_with (at_builtin; refine wpList_append_from rfl (.tmp 29) (.tmp 31) _ rfl rfl rfl hr2 hx2 (by omega) hb2 ?_; intro A2 N2 c2 w2 ho2 hg2 hat2)
          go_roundw
          case rel => exact ⟨k + 1, _, _, _, by omega, by go_num, rfl, by rw [HS.out, HB.out]; simpa using ho2, (hGr.alloc _).step hg2 hat2⟩
          case measure => simp [intOf]; omega
      · have h34 : ((s[k].toNat : Int) == 34) = false := by simp; omega
        have h92 : ((s[k].toNat : Int) == 92) = false := by simp; omega
        by_cases h4 : s[k].toNat < 32 ∨ 126 < s[k].toNat
        · have h0 : (0 : Int) ≤ (s[k].toNat : Int) := by omega
          have h256 : (s[k].toNat : Int) ≤ 255 := by omega
          have hq1 : (0 : Int) ≤ (s[k].toNat : Int) / 16 := by omega
          have hq2 : (s[k].toNat : Int) / 16 < 16 := by omega
          have he1 : ∀ h : ((s[k].toNat : Int) / 16).toNat < (ByteArray.mk #[48, 49, 50, 51, 52, 53, 54, 55, 56, 57, 97, 98, 99, 100, 101, 102]).size, ((ByteArray.mk #[48, 49, 50, 51, 52, 53, 54, 55, 56, 57, 97, 98, 99, 100, 101, 102])[((s[k].toNat : Int) / 16).toNat]'h).toNat = (dig16 (s[k].toNat / 16)).toNat := by
            intro h
            rw [show ((s[k].toNat : Int) / 16).toNat = s[k].toNat / 16 from by omega] at h
            have := digits_at (s[k].toNat / 16) (by omega) h
            rw [← this]
            congr 2
          have he2 := and_15 s[k].toNat hu
          have hq3 : (0 : Int) ≤ (s[k].toNat : Int) % 16 := by omega
          have hq4 : (s[k].toNat : Int) % 16 < 16 := by omega
          have he3 : ∀ h : ((s[k].toNat : Int) % 16).toNat < (ByteArray.mk #[48, 49, 50, 51, 52, 53, 54, 55, 56, 57, 97, 98, 99, 100, 101, 102]).size, ((ByteArray.mk #[48, 49, 50, 51, 52, 53, 54, 55, 56, 57, 97, 98, 99, 100, 101, 102])[((s[k].toNat : Int) % 16).toNat]'h).toNat = (dig16 (s[k].toNat % 16)).toNat := by
            intro h
            rw [show ((s[k].toNat : Int) % 16).toNat = s[k].toNat % 16 from by omega] at h
            have := digits_at (s[k].toNat % 16) (by omega) h
            rw [← this]
            congr 2
          have hB : quoB s[k] = [92, 120, dig16 (s[k].toNat / 16), dig16 (s[k].toNat % 16)] := by unfold quoB; rw [if_neg h1, if_pos h4]
          have HB := Lib.hid hB
          clear hB
          have hr2 := hor.drew.alloc (.cells #[.int .u8 92, .int .u8 120, .int .u8 ((dig16 (s[k].toNat / 16)).toNat : Int), .int .u8 ((dig16 (s[k].toNat % 16)).toNat : Int)] 5)
          have hx2 : From Try.prog (wr.drew.alloc (.cells #[.int .u8 92, .int .u8 120, .int .u8 ((dig16 (s[k].toNat / 16)).toNat : Int), .int .u8 ((dig16 (s[k].toNat % 16)).toNat : Int)] 5)) 31 (.slice (some ⟨wr.heap.size, 0, none⟩) 4 4) 4 [92, 120, dig16 (s[k].toNat / 16), dig16 (s[k].toNat % 16)] := From.sees (Own.lit wr.drew [92, 120, dig16 (s[k].toNat / 16), dig16 (s[k].toNat % 16)] 4 (Nat.le_refl _) (by simp [maxLen]) rfl).sees
          have hb2 : base ≤ (wr.drew.alloc (.cells #[.int .u8 92, .int .u8 120, .int .u8 ((dig16 (s[k].toNat / 16)).toNat : Int), .int .u8 ((dig16 (s[k].toNat % 16)).toNat : Int)] 5)).heap.size := by simp; omega
          by_cases h7 : (s[k].toNat : Int) < 32
          · clear h1 h4
            go_wp2
            go_region_law (refine step_append_from rfl (.tmp 40) (.tmp 47) _ rfl rfl rfl hr2 hx2 (by omega) hb2 ?_; intro A2 N2 c2 w2 ho2 hg2 hat2)
            all_goals
              go_wp2
              go_roundw
              case rel => exact ⟨k + 1, _, _, _, by omega, by go_num, rfl, by rw [HS.out, HB.out]; simpa using ho2, (hGr.drew.alloc _).step hg2 hat2⟩
              case measure => simp [intOf]; omega
          · have h8 : (126 : Int) < (s[k].toNat : Int) := by omega
            have h9 : (32 : Int) ≤ (s[k].toNat : Int) := by omega
            clear h7
            clear h1 h4
            go_wp2
            go_region_law (refine step_append_from rfl (.tmp 40) (.tmp 47) _ rfl rfl rfl hr2 hx2 (by omega) hb2 ?_; intro A2 N2 c2 w2 ho2 hg2 hat2)
            all_goals
              go_wp2
              go_roundw
              case rel => exact ⟨k + 1, _, _, _, by omega, by go_num, rfl, by rw [HS.out, HB.out]; simpa using ho2, (hGr.drew.alloc _).step hg2 hat2⟩
              case measure => simp [intOf]; omega
        · have hB : quoB s[k] = [s[k]] := by unfold quoB; rw [if_neg h1, if_neg h4]
          have HB := Lib.hid hB
          clear hB
          have hr2 := hor.alloc (.cells #[.int .u8 (s[k].toNat : Int)] 5)
          have hx2 : From Try.prog (wr.alloc (.cells #[.int .u8 (s[k].toNat : Int)] 5)) 31 (.slice (some ⟨wr.heap.size, 0, none⟩) 1 1) 1 [s[k]] := From.sees (Own.lit wr [s[k]] 1 (Nat.le_refl _) (by simp [maxLen]) rfl).sees
          have hb2 : base ≤ (wr.alloc (.cells #[.int .u8 (s[k].toNat : Int)] 5)).heap.size := by simp; omega
          have h5 : (32 : Int) ≤ (s[k].toNat : Int) := by omega
          have h6 : (s[k].toNat : Int) ≤ 126 := by omega
          clear h1 h4
          go_wp2_with (at_builtin; refine wpList_append_from rfl (.tmp 18) (.tmp 20) _ rfl rfl rfl hr2 hx2 (by omega) hb2 ?_; intro A2 N2 c2 w2 ho2 hg2 hat2)
          go_roundw
          case rel => exact ⟨k + 1, _, _, _, by omega, by go_num, rfl, by rw [HS.out, HB.out]; simpa using ho2, (hGr.alloc _).step hg2 hat2⟩
          case measure => simp [intOf]; omega
    · obtain rfl : k = s.size := by omega
      have hql := hor.len
      have hq := quoL_le (s.data.toList.take s.size)
      simp only [List.length_append, List.length_cons, List.length_nil, List.length_take, Array.length_toList] at hq hql
      have hN : N + 1 ≤ 70368744177664 := by have : s.data.size = s.size := rfl; omega
      have hall : s.data.toList.take s.size = s.data.toList := List.take_of_length_le (by rw [Array.length_toList]; exact Nat.le_refl _)
      rw [hall] at hor
      have hr2 := hor.alloc (.cells #[.int .u8 34] 5)
      have hx2 : From Try.prog (wr.alloc (.cells #[.int .u8 34] 5)) 31 (.slice (some ⟨wr.heap.size, 0, none⟩) 1 1) 1 [34] := From.sees (Own.lit wr [34] 1 (Nat.le_refl _) (by simp [maxLen]) rfl).sees
      have hbr : base ≤ wr.heap.size := by have := hGr.by_.size; omega
      have hb2 : base ≤ (wr.alloc (.cells #[.int .u8 34] 5)).heap.size := by simp; omega
      clear hall hql hq hlt hk
      go_wp2_with (at_builtin; refine wpList_append_from rfl (.tmp 50) (.tmp 51) _ rfl rfl rfl hr2 hx2 hN hb2 ?_; intro A2 N2 c2 w2 ho2 hg2 hat2)
      go_ret
      exact ⟨A2, N2, c2, rfl, by simpa [quo] using ho2, (hGr.alloc _).step hg2 hat2⟩

theorem quote_any (base : Nat) (A : Option Addr) (n c : Nat) (l : List UInt8) (s : ByteArray) (w : World) (ho : Own w base A n c l) (hb : base ≤ w.heap.size) (hsz : l.length + 4 * s.size ≤ 549755813888) :
    Calls Try.prog 36 #[.slice A n c, .string s] w fun e w' => ∃ A' N c', e = .returned (.slice A' N c') ∧ Own w' base A' N c' (l ++ quo s.data.toList) ∧ Grew w w' (Value.slice A n c).ownBlock A' := by
  have ho0 := ho.alloc (.cells #[.int .u8 34] 5)
  have hx0 : From Try.prog (w.alloc (.cells #[.int .u8 34] 5)) 31 (.slice (some ⟨w.heap.size, 0, none⟩) 1 1) 1 [34] := From.sees (Own.lit w [34] 1 (Nat.le_refl _) (by simp [maxLen]) rfl).sees
  have hn := ho.len
  obtain ⟨A1, N1, c1, w1, hr, ho1, hg1, hat1⟩ := run_append_from 31 ho0 hx0 (by omega) (by simp; omega)
  exact quote_of base _ A A1 n c N1 c1 l s w w1 hb hsz hr ho1 (((Grew.refl w A n c).alloc _).step hg1 hat1)

/-- A slice that is full: what is put behind it goes to a new row. -/
theorem run_append_full {w : World} {base n m : Nat} {A : Option Addr} {l l2 : List UInt8} {tx : TypeId} {x : Value} (ty : TypeId) (hs : Sees w w.heap.size A n l) (hx : From Try.prog w tx x m l2) (h46 : n + m ≤ 70368744177664) (hm : 0 < m) (hbase : base ≤ w.heap.size) :
    ∃ c' w', (Builtin.append_ #[31, tx] ty #[.slice A n n, x]).run Try.prog w = .ok (.slice (some ⟨w.heap.size, 0, none⟩) (n + m) c') w' ∧ Own w' base (some ⟨w.heap.size, 0, none⟩) (n + m) c' (l ++ l2) ∧ w.grownBy w' none := by
  obtain ⟨i, hi, hz, hsz, hb⟩ := info_parts info_u8
  have hzs : (Value.int IntKind.u8 0).cells.size = 1 := rfl
  have hsrc := hx.src
  rw [← hsz] at hsrc
  have hlen := hs.len
  have hlen2 := hx.len
  have hold : (Builtin.firstCells i.size n (.slice A n n)).run Try.prog w.drew = .ok (byts l).toArray w.drew := by
    rcases A with _ | a
    · obtain ⟨rfl, rfl⟩ := hs.empty
      exact run_firstCells_none w.drew i.size 0 0 0
    · exact run_firstCells_some w.drew i.size n a n n (byts l) (by rw [byts_length, hsz]; omega) (by simpa using hs.cells)
  have hg : n < n + m := by omega
  have hr := run_append_grow_src (P := Try.prog) w 31 tx ty 5 i (.int .u8 0) Try.underlying31 hi hz A n n (byts l) hold x m (byts l2) hsrc hg (by omega) (growslice_fits hg (by rw [hb]; omega))
  have hge := grownCap_ge w (n + m) n 5
  have hcm := grownCap_le_maxLen w (n + m) n 5 (by simp only [maxLen]; omega)
  refine ⟨_, _, hr, ⟨⟨by rw [byts_length, List.length_append]; omega, .inr ⟨w.heap.size, _, _, rfl, hbase, heap_alloc_new w.drew _, hge, hcm, ?_, ?_⟩⟩⟩, ⟨rfl, rfl, rfl, by simp, fun k hk _ => heap_alloc_old w.drew _ hk⟩⟩
  · simp only [Array.size_append, List.size_toArray, size_zeroCells, hzs, List.length_append, byts_length]
    omega
  · simp only [Array.toList_append, byts_append]
    rw [List.take_append_of_le_length (by simp [byts_length]; omega), List.take_of_length_le (by simp [byts_length]; omega)]
theorem quote_full (base : Nat) (A : Option Addr) (n : Nat) (l : List UInt8) (s : ByteArray) (w : World) (hs : Sees w w.heap.size A n l) (hb : base ≤ w.heap.size) (hsz : l.length + 4 * s.size ≤ 549755813888) :
    Calls Try.prog 36 #[.slice A n n, .string s] w fun e w' => ∃ A' N c', e = .returned (.slice A' N c') ∧ Own w' base A' N c' (l ++ quo s.data.toList) ∧ Grew w w' none A' := by
  have hx0 : From Try.prog (w.alloc (.cells #[.int .u8 34] 5)) 31 (.slice (some ⟨w.heap.size, 0, none⟩) 1 1) 1 [34] := From.sees (Own.lit w [34] 1 (Nat.le_refl _) (by simp [maxLen]) rfl).sees
  have hn := hs.len
  obtain ⟨c1, w1, hr, ho1, hg1⟩ := run_append_full (base := base) 31 ((hs.alloc (Nat.le_refl _) (.cells #[.int .u8 34] 5)).more (by simp)) hx0 (by omega) (by omega) (by simp; omega)
  refine quote_of base none A _ n n _ c1 l s w w1 hb hsz hr ho1 ⟨?_, fun a ha => .inl (by cases ha; simp)⟩
  exact ⟨hg1.os, hg1.tape, hg1.output, Nat.le_trans (by simp) hg1.size, fun k hk hn => (hg1.block k (by simp; omega) hn).trans (Below.heap_alloc w _ k hk)⟩
end Go.Proofs.Ytclgemkdlgpekaa
