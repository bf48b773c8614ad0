/- CsvKnown's walk. Conditions: MaxLen's cell. -/
import Derived.Test.YtlojjmmjmpffnaaGreatDoorMgCvK
namespace Go.Proofs.YtlojjmmjmpffnaaGreatDoor.Cv
open Go.RowKit Go.Proofs.YtlojjmmjmpffnaaGreatDoor.Jd Go.Proofs.YtlojjmmjmpffnaaGreatDoor.Li Go.Proofs.YtlojjmmjmpffnaaGreatDoor.Cl
set_option maxRecDepth 100000
attribute [local go_sem ↓] Go.wp_at_zero Go.wp_at_succ

def allocs (w : World) : List Obj → World
  | [] => w
  | o :: r => allocs (w.alloc o) r
theorem allocs_below : ∀ (os : List Obj) (w : World), Below w.heap.size w (allocs w os)
  | [], w => Below.refl _ _
  | o :: r, w => ((Below.refl _ _).alloc (Nat.le_refl _) o).trans ((allocs_below r (w.alloc o)).mono (by simp))
theorem allocs_get : ∀ (os : List Obj) (w : World) (i : Nat) (o : Obj), os[i]? = some o → (allocs w os).heap[w.heap.size + i]? = some o
  | [], w, i, o, h => by simp at h
  | o' :: r, w, 0, o, h => by
    simp only [List.getElem?_cons_zero, Option.some.injEq] at h
    subst h
    have := (allocs_below r (w.alloc o')).block w.heap.size (by simp)
    rw [Nat.add_zero, allocs, this]
    exact heap_alloc_new w o'
  | o' :: r, w, i + 1, o, h => by
    simp only [List.getElem?_cons_succ] at h
    have := allocs_get r (w.alloc o') i o h
    rw [allocs, show w.heap.size + (i + 1) = (w.alloc o').heap.size + i by simp; omega]
    exact this
theorem allocs_size : ∀ (os : List Obj) (w : World), (allocs w os).heap.size = w.heap.size + os.length
  | [], w => rfl
  | o :: r, w => by rw [allocs, allocs_size r (w.alloc o)]; simp; omega

/-- What the law lays: files, texts, lines. -/
def kLaid : List Obj := [.cells #[.string ⟨#[107, 101, 121, 10]⟩, .string ⟨#[34, 107, 101, 121, 34, 44, 97, 13, 10, 120, 44, 49, 13, 10]⟩, .string ⟨#[107, 101, 121, 44, 97, 44, 98, 10, 120, 44, 44, 34, 34, 10]⟩, .string ⟨#[107, 101, 121, 44, 34, 97, 44, 34, 34, 98, 34, 10, 34, 120, 44, 34, 44, 32, 121, 32, 10]⟩, .string ⟨#[107, 101, 121, 44, 97]⟩, .string ⟨#[]⟩, .string ⟨#[110, 97, 109, 101, 44, 97, 10]⟩, .string ⟨#[107, 101, 121, 44, 97, 44, 97, 10]⟩, .string ⟨#[107, 101, 121, 44, 107, 101, 121, 10]⟩, .string ⟨#[107, 101, 121, 44, 10]⟩, .string ⟨#[107, 101, 121, 44, 97, 10, 120, 10]⟩, .string ⟨#[107, 101, 121, 44, 97, 10, 120, 44, 49, 44, 50, 10]⟩, .string ⟨#[107, 101, 121, 44, 97, 10, 120, 44, 49, 10, 120, 44, 50, 10]⟩, .string ⟨#[107, 101, 121, 44, 97, 10, 44, 49, 10]⟩, .string ⟨#[107, 101, 121, 44, 97, 10, 120, 44, 34, 49, 10]⟩, .string ⟨#[107, 101, 121, 44, 97, 10, 120, 44, 34, 49, 34, 50, 10]⟩, .string ⟨#[107, 101, 121, 44, 97, 10, 120, 44, 49, 34, 10]⟩, .string ⟨#[107, 101, 121, 10, 10]⟩, .string ⟨#[107, 101, 121, 44, 97, 10, 120, 44, 49, 13, 50, 10]⟩] 9,
  .cells #[.string ⟨#[123, 125]⟩, .string ⟨#[123, 34, 120, 34, 58, 32, 123, 34, 97, 34, 58, 32, 123, 34, 49, 34, 58, 32, 123, 125, 125, 125, 125]⟩, .string ⟨#[123, 34, 120, 34, 58, 32, 123, 125, 125]⟩, .string ⟨#[123, 34, 120, 44, 34, 58, 32, 123, 34, 97, 44, 92, 34, 98, 34, 58, 32, 123, 34, 32, 121, 32, 34, 58, 32, 123, 125, 125, 125, 125]⟩, .string ⟨#[123, 125]⟩, .string ⟨#[]⟩, .string ⟨#[]⟩, .string ⟨#[]⟩, .string ⟨#[]⟩, .string ⟨#[]⟩, .string ⟨#[]⟩, .string ⟨#[]⟩, .string ⟨#[]⟩, .string ⟨#[]⟩, .string ⟨#[]⟩, .string ⟨#[]⟩, .string ⟨#[]⟩, .string ⟨#[]⟩, .string ⟨#[]⟩] 9,
  .cells #[.int .i64 0, .int .i64 0, .int .i64 0, .int .i64 0, .int .i64 0, .int .i64 0, .int .i64 1, .int .i64 1, .int .i64 1, .int .i64 1, .int .i64 2, .int .i64 2, .int .i64 3, .int .i64 2, .int .i64 2, .int .i64 2, .int .i64 2, .int .i64 2, .int .i64 2] 3]
/-- One of the files: what it is to read as. -/
structure Row19 (W : World) (g k : Nat) (s wk : ByteArray) (nk : Nat) (T : Tr) (i : Nat) (e : Int) : Prop where
  text : W.cell? ⟨g, k, none⟩ = some (.string s)
  want : W.cell? ⟨g + 1, k, none⟩ = some (.string wk)
  num : W.cell? ⟨g + 1 + 1, k, none⟩ = some (.int .i64 nk)
  read : readF s.data.toList = (T, i, e)
  pl : plB s.data.toList = true
/-- A sound one, or another. -/
def Cls (W : World) (g k : Nat) : Prop :=
  (∃ s wk nk T, Row19 W g k s wk nk T 0 0 ∧ (wk.toList == ([] : List UInt8)) = false ∧ Pt.ba T.text = wk ∧ T.size ≤ 1000 ∧ T.text.length ≤ 1000) ∨
  (∃ s nk e, Row19 W g k s ⟨#[]⟩ nk .nil nk e ∧ e = if k = 5 then 2 else if k = 7 ∨ k = 12 then 7 else 6)
theorem row19 (w : World) (k : Nat) (hk : k < 19) : Cls (allocs w kLaid) w.heap.size k := by
  have hg := fun i o h => allocs_get kLaid w i o h
  have c0 := fun j => cell_of_row _ _ j _ _ _ (hg 0 _ rfl)
  have c1 := fun j => cell_of_row _ _ j _ _ _ (hg 1 _ rfl)
  have c2 := fun j => cell_of_row _ _ j _ _ _ (hg 2 _ rfl)
  match k, hk with
  | 0, _ => exact .inl ⟨⟨#[107, 101, 121, 10]⟩, ⟨#[123, 125]⟩, 0, .nil, ⟨c0 0, c1 0, c2 0, rd_k0, pl_k0⟩, by decide +kernel, tx_nil, by decide, by decide⟩
  | 1, _ => exact .inl ⟨⟨#[34, 107, 101, 121, 34, 44, 97, 13, 10, 120, 44, 49, 13, 10]⟩, ⟨#[123, 34, 120, 34, 58, 32, 123, 34, 97, 34, 58, 32, 123, 34, 49, 34, 58, 32, 123, 125, 125, 125, 125]⟩, 0, T1, ⟨c0 1, c1 1, c2 1, rd_k1, pl_k1⟩, by decide +kernel, tx_T1, by decide, by decide⟩
  | 2, _ => exact .inl ⟨⟨#[107, 101, 121, 44, 97, 44, 98, 10, 120, 44, 44, 34, 34, 10]⟩, ⟨#[123, 34, 120, 34, 58, 32, 123, 125, 125]⟩, 0, T2, ⟨c0 2, c1 2, c2 2, rd_k2, pl_k2⟩, by decide +kernel, tx_T2, by decide, by decide⟩
  | 3, _ => exact .inl ⟨⟨#[107, 101, 121, 44, 34, 97, 44, 34, 34, 98, 34, 10, 34, 120, 44, 34, 44, 32, 121, 32, 10]⟩, ⟨#[123, 34, 120, 44, 34, 58, 32, 123, 34, 97, 44, 92, 34, 98, 34, 58, 32, 123, 34, 32, 121, 32, 34, 58, 32, 123, 125, 125, 125, 125]⟩, 0, T3, ⟨c0 3, c1 3, c2 3, rd_k3, pl_k3⟩, by decide +kernel, tx_T3, by decide, by decide⟩
  | 4, _ => exact .inl ⟨⟨#[107, 101, 121, 44, 97]⟩, ⟨#[123, 125]⟩, 0, .nil, ⟨c0 4, c1 4, c2 4, rd_k4, pl_k4⟩, by decide +kernel, tx_nil, by decide, by decide⟩
  | 5, _ => exact .inr ⟨⟨#[]⟩, 0, 2, ⟨c0 5, c1 5, c2 5, rd_k5, pl_k5⟩, by decide⟩
  | 6, _ => exact .inr ⟨⟨#[110, 97, 109, 101, 44, 97, 10]⟩, 1, 6, ⟨c0 6, c1 6, c2 6, rd_k6, pl_k6⟩, by decide⟩
  | 7, _ => exact .inr ⟨⟨#[107, 101, 121, 44, 97, 44, 97, 10]⟩, 1, 7, ⟨c0 7, c1 7, c2 7, rd_k7, pl_k7⟩, by decide⟩
  | 8, _ => exact .inr ⟨⟨#[107, 101, 121, 44, 107, 101, 121, 10]⟩, 1, 6, ⟨c0 8, c1 8, c2 8, rd_k8, pl_k8⟩, by decide⟩
  | 9, _ => exact .inr ⟨⟨#[107, 101, 121, 44, 10]⟩, 1, 6, ⟨c0 9, c1 9, c2 9, rd_k9, pl_k9⟩, by decide⟩
  | 10, _ => exact .inr ⟨⟨#[107, 101, 121, 44, 97, 10, 120, 10]⟩, 2, 6, ⟨c0 10, c1 10, c2 10, rd_k10, pl_k10⟩, by decide⟩
  | 11, _ => exact .inr ⟨⟨#[107, 101, 121, 44, 97, 10, 120, 44, 49, 44, 50, 10]⟩, 2, 6, ⟨c0 11, c1 11, c2 11, rd_k11, pl_k11⟩, by decide⟩
  | 12, _ => exact .inr ⟨⟨#[107, 101, 121, 44, 97, 10, 120, 44, 49, 10, 120, 44, 50, 10]⟩, 3, 7, ⟨c0 12, c1 12, c2 12, rd_k12, pl_k12⟩, by decide⟩
  | 13, _ => exact .inr ⟨⟨#[107, 101, 121, 44, 97, 10, 44, 49, 10]⟩, 2, 6, ⟨c0 13, c1 13, c2 13, rd_k13, pl_k13⟩, by decide⟩
  | 14, _ => exact .inr ⟨⟨#[107, 101, 121, 44, 97, 10, 120, 44, 34, 49, 10]⟩, 2, 6, ⟨c0 14, c1 14, c2 14, rd_k14, pl_k14⟩, by decide⟩
  | 15, _ => exact .inr ⟨⟨#[107, 101, 121, 44, 97, 10, 120, 44, 34, 49, 34, 50, 10]⟩, 2, 6, ⟨c0 15, c1 15, c2 15, rd_k15, pl_k15⟩, by decide⟩
  | 16, _ => exact .inr ⟨⟨#[107, 101, 121, 44, 97, 10, 120, 44, 49, 34, 10]⟩, 2, 6, ⟨c0 16, c1 16, c2 16, rd_k16, pl_k16⟩, by decide⟩
  | 17, _ => exact .inr ⟨⟨#[107, 101, 121, 10, 10]⟩, 2, 6, ⟨c0 17, c1 17, c2 17, rd_k17, pl_k17⟩, by decide⟩
  | 18, _ => exact .inr ⟨⟨#[107, 101, 121, 44, 97, 10, 120, 44, 49, 13, 50, 10]⟩, 2, 6, ⟨c0 18, c1 18, c2 18, rd_k18, pl_k18⟩, by decide⟩
  | k + 19, hk => exact absurd hk (by omega)

set_option maxHeartbeats 8000000 in
theorem knows_walk (a : Int) (w : World) (ha : -9223372036854775808 ≤ a ∧ a ≤ 9223372036854775807) (hG : Gl w) :
    Calls Tryz.prog 4 #[.int .i64 a] w fun e w' => e = .returned (.bool true) ∧ Below w.heap.size w w' := by
  have HK := Lib.hid (known_any w hG)
  obtain ⟨k, hk, HJ'⟩ := within_nat a 19 (by omega) (by omega) ha
  have HJ0 : Hid (∀ w, Calls Tryz.prog 8 #[.int .i64 a, .int .i64 19] w fun e w' => e = .returned (.int .i64 k) ∧ w = w') := Lib.hid HJ'
  have HG := Lib.hid hG
  clear HJ' hG
  go_enter Tryz.func4, Tryz.ntmps4
  go_wp2_with fail
  (with_reducible refine HK.out.mono ?_)
  rintro e w1 ⟨rfl, hb1⟩
  go_wp2_with fail
  have h19 := row19 w1 k hk
  have hbw := allocs_below kLaid w1
  have hsz := allocs_size kLaid w1
  obtain ⟨W, hW⟩ : ∃ W, W = allocs w1 kLaid := ⟨_, rfl⟩
  rw [← hW] at h19 hbw hsz
  change Calls _ _ _ (allocs w1 kLaid) _
  rw [← hW]
  have hsz2 : W.heap.size = w1.heap.size + 3 := hsz
  have HGW := Lib.hid ((HG.out.below hb1).below hbw)
  have HBW := Lib.hid (hb1.trans (hbw.mono hb1.size))
  have hb0 := (Below.refl W.heap.size W).drew
  have b1 : (0 : Int) ≤ (k : Int) := by omega
  have b2 : (k : Int) < 19 := by omega
  clear hsz hW
  (with_reducible refine (HJ0.out _).mono ?_)
  rintro e w3 ⟨rfl, rfl⟩
  rcases h19 with ⟨s, wk, nk, T, hrow, hne, htx, hts, htl⟩ | ⟨s, nk, ee, hrow, hee⟩
  · have hl := load_any s W (plB_pl hrow.pl) HGW.out
    rw [hrow.read] at hl
    have HL := Lib.hid hl
    have ct := hrow.text
    have HC := Lib.hid (fun W' (hb : Below W.heap.size W W') => ((hb.cell (p := ⟨w1.heap.size + 1, k, none⟩) (by simp only; omega)).trans hrow.want : W'.cell? ⟨w1.heap.size + 1, k, none⟩ = some (.string wk)))
    have HT := Lib.hid (fun (W : World) (A : Option Addr) (n c : Nat) (h : Holds W W.heap.size A n T) => text_of T wk htx hts htl W A n c h)
    clear hl hrow htx hts htl
    go_wp2_with fail
    (with_reducible refine HL.out.mono ?_)
    rintro e w2 ⟨At, ct2, rfl, hh, hc, hb⟩
    have hh1 := hh.to (B := w2.heap.size) (fun b hb => hb.2)
    have HH := Lib.hid (fun W' (hW : Below w2.heap.size w2 W') => HT.out W' At T.len ct2 ((hh1.keep (w' := W') fun p hp => hW.cell hp).more hW.size))
    have cw := HC.out w2 hb
    have HB := Lib.hid hb
    clear hh hh1 hc hb
    have hb2 := (Below.refl w2.heap.size w2).drew
    go_wp2_with fail
    go_region_held3 (fun W' => W'.cell? ⟨w1.heap.size + 1, k, none⟩ = some (.string wk)) (first | exact cw | exact HC.out _ (HB.out.trans (f1.mono HB.out.size)))
      (first
      | (go_at_call 13; (with_reducible refine (HH.out _ hb2).mono ?_); rintro e v1 ⟨rfl, e1⟩; have f1 := hb2.trans (e1.mono hb2.size)))
    all_goals
      go_wp2_with fail
      go_ret
      exact ⟨rfl, HBW.out.trans ((HB.out.trans (f1.mono HB.out.size)).mono HBW.out.size)⟩
  · have hl := load_any s W (plB_pl hrow.pl) HGW.out
    rw [hrow.read] at hl
    have HL := Lib.hid hl
    have ct := hrow.text
    have HC := Lib.hid (fun W' (hb : Below W.heap.size W W') => (And.intro ((hb.cell (p := ⟨w1.heap.size + 1, k, none⟩) (by simp only; omega)).trans hrow.want) ((hb.cell (p := ⟨w1.heap.size + 1 + 1, k, none⟩) (by simp only; omega)).trans hrow.num) : W'.cell? ⟨w1.heap.size + 1, k, none⟩ = some (.string ⟨#[]⟩) ∧ W'.cell? ⟨w1.heap.size + 1 + 1, k, none⟩ = some (.int .i64 nk)))
    clear hl hrow
    go_wp2_with fail
    (with_reducible refine HL.out.mono ?_)
    rintro e w2 ⟨At, ct2, rfl, hh, hc, hb⟩
    obtain ⟨cw, cn⟩ := HC.out w2 hb
    have HB := Lib.hid hb
    have hlen : (Tr.nil).len = 0 := rfl
    clear hh hc hb
    dsimp only
    rw [hlen]
    by_cases h5 : k = 5
    · subst h5
      rw [if_pos rfl] at hee
      subst hee
      go_wp2_with fail
      go_ret
      exact ⟨rfl, HBW.out.trans (HB.out.mono HBW.out.size)⟩
    · rw [if_neg h5] at hee
      by_cases h7 : k = 7
      · subst h7
        rw [if_pos (.inl rfl)] at hee
        subst hee
        go_wp2_with fail
        go_ret
        exact ⟨rfl, HBW.out.trans (HB.out.mono HBW.out.size)⟩
      · by_cases h12 : k = 12
        · subst h12
          rw [if_pos (.inr rfl)] at hee
          subst hee
          go_wp2_with fail
          go_ret
          exact ⟨rfl, HBW.out.trans (HB.out.mono HBW.out.size)⟩
        · rw [if_neg (by omega)] at hee
          subst hee
          have n5 : ((k : Int) == 5) = false := by simp; omega
          have n7 : ((k : Int) == 7) = false := by simp; omega
          have n12 : ((k : Int) == 12) = false := by simp; omega
          go_wp2_with fail
          go_ret
          exact ⟨rfl, HBW.out.trans (HB.out.mono HBW.out.size)⟩
end Go.Proofs.YtlojjmmjmpffnaaGreatDoor.Cv
