/- IniWrites' walk. Conditions: MaxLen's cell. -/
import Derived.Test.YtgefoehpdiiomaaGreatDoorMwInRead
namespace Go.Proofs.YtgefoehpdiiomaaGreatDoor.In
open Go.RowKit Go.Proofs.YtgefoehpdiiomaaGreatDoor.Jd Go.Proofs.YtgefoehpdiiomaaGreatDoor.Li Go.Proofs.YtgefoehpdiiomaaGreatDoor.Cl Go.Proofs.YtgefoehpdiiomaaGreatDoor.Cv
set_option maxRecDepth 100000
attribute [local go_sem ↓] Go.wp_at_zero Go.wp_at_succ

set_option maxHeartbeats 1000000 in
theorem keyOf_laid (k v : ByteArray) (w : World) : Calls Tryz.prog 29 #[.string k, .string v] w fun e w' => e = .returned (.slice (some ⟨w.heap.size + 1, 0, none⟩) 1 1) ∧ w' = (w.alloc (Obj.cells #[.string v, .slice none 0 0] 59)).alloc (Obj.cells #[.string k, .slice (some ⟨w.heap.size, 0, none⟩) 1 1] 59) := by
  go_enter Tryz.func29, Tryz.ntmps29
  go_wp2_with fail
  go_ret
  exact ⟨rfl, rfl⟩
def wB : ByteArray := ⟨#[59, 32, 116, 111, 112, 10, 91, 97, 93, 10, 32, 32, 120, 32, 61, 32, 49, 32, 32, 10, 35, 32, 109, 105, 100, 10, 91, 98, 93, 10, 121, 61, 50]⟩
/-- What the law lays: trees, texts. -/
def wLaid (b : Nat) : List Obj := [.cells #[.string ⟨#[49]⟩, .slice none 0 0] 59,
  .cells #[.string ⟨#[120]⟩, .slice (some ⟨b + 0, 0, none⟩) 1 1] 59,
  .cells #[.string ⟨#[50]⟩, .slice none 0 0] 59,
  .cells #[.string ⟨#[121]⟩, .slice (some ⟨b + 2, 0, none⟩) 1 1] 59,
  .cells #[.string ⟨#[97]⟩, .slice (some ⟨b + 1, 0, none⟩) 1 1, .string ⟨#[98]⟩, .slice (some ⟨b + 3, 0, none⟩) 1 1] 59,
  .cells #[.string ⟨#[55]⟩, .slice none 0 0] 59,
  .cells #[.string ⟨#[120]⟩, .slice (some ⟨b + 5, 0, none⟩) 1 1] 59,
  .cells #[.string ⟨#[50]⟩, .slice none 0 0] 59,
  .cells #[.string ⟨#[121]⟩, .slice (some ⟨b + 7, 0, none⟩) 1 1] 59,
  .cells #[.string ⟨#[97]⟩, .slice (some ⟨b + 6, 0, none⟩) 1 1, .string ⟨#[98]⟩, .slice (some ⟨b + 8, 0, none⟩) 1 1] 59,
  .cells #[.string ⟨#[50]⟩, .slice none 0 0] 59,
  .cells #[.string ⟨#[121]⟩, .slice (some ⟨b + 10, 0, none⟩) 1 1] 59,
  .cells #[.string ⟨#[98]⟩, .slice (some ⟨b + 11, 0, none⟩) 1 1] 59,
  .cells #[.string ⟨#[]⟩, .slice none 0 0] 59,
  .cells #[.string ⟨#[120]⟩, .slice (some ⟨b + 13, 0, none⟩) 1 1] 59,
  .cells #[.string ⟨#[97]⟩, .slice (some ⟨b + 14, 0, none⟩) 1 1, .string ⟨#[98]⟩, .slice none 0 0] 59,
  .cells #[.string ⟨#[48]⟩, .slice none 0 0] 59,
  .cells #[.string ⟨#[119]⟩, .slice (some ⟨b + 16, 0, none⟩) 1 1] 59,
  .cells #[.string ⟨#[50]⟩, .slice none 0 0] 59,
  .cells #[.string ⟨#[121]⟩, .slice (some ⟨b + 18, 0, none⟩) 1 1] 59,
  .cells #[.string ⟨#[97]⟩, .slice (some ⟨b + 17, 0, none⟩) 1 1, .string ⟨#[98]⟩, .slice (some ⟨b + 19, 0, none⟩) 1 1] 59,
  .cells #[.string ⟨#[49]⟩, .slice none 0 0] 59,
  .cells #[.string ⟨#[120]⟩, .slice (some ⟨b + 21, 0, none⟩) 1 1] 59,
  .cells #[.string ⟨#[50]⟩, .slice none 0 0] 59,
  .cells #[.string ⟨#[121]⟩, .slice (some ⟨b + 23, 0, none⟩) 1 1] 59,
  .cells #[.string ⟨#[51]⟩, .slice none 0 0] 59,
  .cells #[.string ⟨#[122]⟩, .slice (some ⟨b + 25, 0, none⟩) 1 1] 59,
  .cells #[.string ⟨#[97]⟩, .slice (some ⟨b + 22, 0, none⟩) 1 1, .string ⟨#[98]⟩, .slice (some ⟨b + 24, 0, none⟩) 1 1, .string ⟨#[99]⟩, .slice (some ⟨b + 26, 0, none⟩) 1 1] 59,
  .cells #[.slice (some ⟨b + 4, 0, none⟩) 2 2, .slice (some ⟨b + 9, 0, none⟩) 2 2, .slice (some ⟨b + 12, 0, none⟩) 1 1, .slice (some ⟨b + 15, 0, none⟩) 2 2, .slice (some ⟨b + 20, 0, none⟩) 2 2, .slice (some ⟨b + 27, 0, none⟩) 3 3, .slice none 0 0] 30,
  .cells #[.string ⟨#[59, 32, 116, 111, 112, 10, 91, 97, 93, 10, 32, 32, 120, 32, 61, 32, 49, 32, 32, 10, 35, 32, 109, 105, 100, 10, 91, 98, 93, 10, 121, 61, 50]⟩, .string ⟨#[59, 32, 116, 111, 112, 10, 91, 97, 93, 10, 32, 32, 120, 32, 61, 32, 55, 32, 32, 10, 35, 32, 109, 105, 100, 10, 91, 98, 93, 10, 121, 61, 50]⟩, .string ⟨#[59, 32, 116, 111, 112, 10, 35, 32, 109, 105, 100, 10, 91, 98, 93, 10, 121, 61, 50]⟩, .string ⟨#[59, 32, 116, 111, 112, 10, 91, 97, 93, 10, 32, 32, 120, 32, 61, 32, 32, 32, 10, 35, 32, 109, 105, 100, 10, 91, 98, 93, 10]⟩, .string ⟨#[59, 32, 116, 111, 112, 10, 91, 97, 93, 10, 119, 61, 48, 10, 35, 32, 109, 105, 100, 10, 91, 98, 93, 10, 121, 61, 50]⟩, .string ⟨#[59, 32, 116, 111, 112, 10, 91, 97, 93, 10, 32, 32, 120, 32, 61, 32, 49, 32, 32, 10, 35, 32, 109, 105, 100, 10, 91, 98, 93, 10, 121, 61, 50, 10, 91, 99, 93, 10, 122, 61, 51, 10]⟩, .string ⟨#[59, 32, 116, 111, 112, 10, 35, 32, 109, 105, 100, 10]⟩] 9]
/-- One of the trees: what it makes. -/
def Row7 (W : World) (b k : Nat) : Prop := ∃ A n c T wk, W.cell? ⟨b + 28, k, none⟩ = some (.slice A n c) ∧ n ≤ c ∧ c ≤ maxLen ∧ Holds W W.heap.size A n T ∧ W.cell? ⟨b + 29, k, none⟩ = some (.string wk) ∧ putM T wB.data.toList = (wk.data.toList, 0) ∧ T.size ≤ 1000 ∧ Tr.Nm T
theorem row7 (w : World) (b : Nat) (hb : b = w.heap.size) (k : Nat) (hk : k < 7) : Row7 (allocs w (wLaid b)) b k := by
  have hg : ∀ i o, (wLaid b)[i]? = some o → (allocs w (wLaid b)).heap[b + i]? = some o := fun i o h => by rw [hb]; rw [hb] at h; exact allocs_get (wLaid w.heap.size) w i o h
  have hs : (allocs w (wLaid b)).heap.size = b + 30 := by rw [allocs_size, hb]; rfl
  have c : ∀ (i j : Nat) {v : Array Value} {T : TypeId} {u : Value}, (wLaid b)[i]? = some (Obj.cells v T) → v[j]? = some u → (allocs w (wLaid b)).cell? ⟨b + i, j, none⟩ = some u := fun i j v T u h1 h2 => by
    rw [cell_of_row _ _ _ _ _ _ (hg i _ h1)]; exact h2
  match k, hk with
  | 0, _ => exact ⟨some ⟨b + 4, 0, none⟩, 2, 2, (.cons ⟨#[97]⟩ (.cons ⟨#[120]⟩ (.cons ⟨#[49]⟩ .nil .nil) .nil) (.cons ⟨#[98]⟩ (.cons ⟨#[121]⟩ (.cons ⟨#[50]⟩ .nil .nil) .nil) .nil)), ⟨#[59, 32, 116, 111, 112, 10, 91, 97, 93, 10, 32, 32, 120, 32, 61, 32, 49, 32, 32, 10, 35, 32, 109, 105, 100, 10, 91, 98, 93, 10, 121, 61, 50]⟩, c 28 0 rfl rfl, Nat.le_refl _, by simp [maxLen], ⟨b + 4, 0, rfl, by omega, c 4 0 rfl rfl, ⟨some ⟨b + 1, 0, none⟩, 1, 1, c 4 1 rfl rfl, Nat.le_refl _, by simp [maxLen], holds_one (hg 1 _ rfl) (by omega) (Nat.le_refl _) (by simp [maxLen]) (holds_one (hg 0 _ rfl) (by omega) (Nat.le_refl _) (by simp [maxLen]) rfl)⟩, 1, rfl, ⟨b + 4, 2, rfl, by omega, c 4 2 rfl rfl, ⟨some ⟨b + 3, 0, none⟩, 1, 1, c 4 3 rfl rfl, Nat.le_refl _, by simp [maxLen], holds_one (hg 3 _ rfl) (by omega) (Nat.le_refl _) (by simp [maxLen]) (holds_one (hg 2 _ rfl) (by omega) (Nat.le_refl _) (by simp [maxLen]) rfl)⟩, 0, rfl, rfl⟩⟩, c 29 0 rfl rfl, by decide +kernel, by decide, ⟨by decide, ⟨by decide, ⟨by decide, trivial, trivial⟩, trivial⟩, ⟨by decide, ⟨by decide, ⟨by decide, trivial, trivial⟩, trivial⟩, trivial⟩⟩⟩
  | 1, _ => exact ⟨some ⟨b + 9, 0, none⟩, 2, 2, (.cons ⟨#[97]⟩ (.cons ⟨#[120]⟩ (.cons ⟨#[55]⟩ .nil .nil) .nil) (.cons ⟨#[98]⟩ (.cons ⟨#[121]⟩ (.cons ⟨#[50]⟩ .nil .nil) .nil) .nil)), ⟨#[59, 32, 116, 111, 112, 10, 91, 97, 93, 10, 32, 32, 120, 32, 61, 32, 55, 32, 32, 10, 35, 32, 109, 105, 100, 10, 91, 98, 93, 10, 121, 61, 50]⟩, c 28 1 rfl rfl, Nat.le_refl _, by simp [maxLen], ⟨b + 9, 0, rfl, by omega, c 9 0 rfl rfl, ⟨some ⟨b + 6, 0, none⟩, 1, 1, c 9 1 rfl rfl, Nat.le_refl _, by simp [maxLen], holds_one (hg 6 _ rfl) (by omega) (Nat.le_refl _) (by simp [maxLen]) (holds_one (hg 5 _ rfl) (by omega) (Nat.le_refl _) (by simp [maxLen]) rfl)⟩, 1, rfl, ⟨b + 9, 2, rfl, by omega, c 9 2 rfl rfl, ⟨some ⟨b + 8, 0, none⟩, 1, 1, c 9 3 rfl rfl, Nat.le_refl _, by simp [maxLen], holds_one (hg 8 _ rfl) (by omega) (Nat.le_refl _) (by simp [maxLen]) (holds_one (hg 7 _ rfl) (by omega) (Nat.le_refl _) (by simp [maxLen]) rfl)⟩, 0, rfl, rfl⟩⟩, c 29 1 rfl rfl, by decide +kernel, by decide, ⟨by decide, ⟨by decide, ⟨by decide, trivial, trivial⟩, trivial⟩, ⟨by decide, ⟨by decide, ⟨by decide, trivial, trivial⟩, trivial⟩, trivial⟩⟩⟩
  | 2, _ => exact ⟨some ⟨b + 12, 0, none⟩, 1, 1, (.cons ⟨#[98]⟩ (.cons ⟨#[121]⟩ (.cons ⟨#[50]⟩ .nil .nil) .nil) .nil), ⟨#[59, 32, 116, 111, 112, 10, 35, 32, 109, 105, 100, 10, 91, 98, 93, 10, 121, 61, 50]⟩, c 28 2 rfl rfl, Nat.le_refl _, by simp [maxLen], ⟨b + 12, 0, rfl, by omega, c 12 0 rfl rfl, ⟨some ⟨b + 11, 0, none⟩, 1, 1, c 12 1 rfl rfl, Nat.le_refl _, by simp [maxLen], holds_one (hg 11 _ rfl) (by omega) (Nat.le_refl _) (by simp [maxLen]) (holds_one (hg 10 _ rfl) (by omega) (Nat.le_refl _) (by simp [maxLen]) rfl)⟩, 0, rfl, rfl⟩, c 29 2 rfl rfl, by decide +kernel, by decide, ⟨by decide, ⟨by decide, ⟨by decide, trivial, trivial⟩, trivial⟩, trivial⟩⟩
  | 3, _ => exact ⟨some ⟨b + 15, 0, none⟩, 2, 2, (.cons ⟨#[97]⟩ (.cons ⟨#[120]⟩ (.cons ⟨#[]⟩ .nil .nil) .nil) (.cons ⟨#[98]⟩ .nil .nil)), ⟨#[59, 32, 116, 111, 112, 10, 91, 97, 93, 10, 32, 32, 120, 32, 61, 32, 32, 32, 10, 35, 32, 109, 105, 100, 10, 91, 98, 93, 10]⟩, c 28 3 rfl rfl, Nat.le_refl _, by simp [maxLen], ⟨b + 15, 0, rfl, by omega, c 15 0 rfl rfl, ⟨some ⟨b + 14, 0, none⟩, 1, 1, c 15 1 rfl rfl, Nat.le_refl _, by simp [maxLen], holds_one (hg 14 _ rfl) (by omega) (Nat.le_refl _) (by simp [maxLen]) (holds_one (hg 13 _ rfl) (by omega) (Nat.le_refl _) (by simp [maxLen]) rfl)⟩, 1, rfl, ⟨b + 15, 2, rfl, by omega, c 15 2 rfl rfl, ⟨none, 0, 0, c 15 3 rfl rfl, Nat.le_refl _, by simp [maxLen], rfl⟩, 0, rfl, rfl⟩⟩, c 29 3 rfl rfl, by decide +kernel, by decide, ⟨by decide, ⟨by decide, ⟨by decide, trivial, trivial⟩, trivial⟩, ⟨by decide, trivial, trivial⟩⟩⟩
  | 4, _ => exact ⟨some ⟨b + 20, 0, none⟩, 2, 2, (.cons ⟨#[97]⟩ (.cons ⟨#[119]⟩ (.cons ⟨#[48]⟩ .nil .nil) .nil) (.cons ⟨#[98]⟩ (.cons ⟨#[121]⟩ (.cons ⟨#[50]⟩ .nil .nil) .nil) .nil)), ⟨#[59, 32, 116, 111, 112, 10, 91, 97, 93, 10, 119, 61, 48, 10, 35, 32, 109, 105, 100, 10, 91, 98, 93, 10, 121, 61, 50]⟩, c 28 4 rfl rfl, Nat.le_refl _, by simp [maxLen], ⟨b + 20, 0, rfl, by omega, c 20 0 rfl rfl, ⟨some ⟨b + 17, 0, none⟩, 1, 1, c 20 1 rfl rfl, Nat.le_refl _, by simp [maxLen], holds_one (hg 17 _ rfl) (by omega) (Nat.le_refl _) (by simp [maxLen]) (holds_one (hg 16 _ rfl) (by omega) (Nat.le_refl _) (by simp [maxLen]) rfl)⟩, 1, rfl, ⟨b + 20, 2, rfl, by omega, c 20 2 rfl rfl, ⟨some ⟨b + 19, 0, none⟩, 1, 1, c 20 3 rfl rfl, Nat.le_refl _, by simp [maxLen], holds_one (hg 19 _ rfl) (by omega) (Nat.le_refl _) (by simp [maxLen]) (holds_one (hg 18 _ rfl) (by omega) (Nat.le_refl _) (by simp [maxLen]) rfl)⟩, 0, rfl, rfl⟩⟩, c 29 4 rfl rfl, by decide +kernel, by decide, ⟨by decide, ⟨by decide, ⟨by decide, trivial, trivial⟩, trivial⟩, ⟨by decide, ⟨by decide, ⟨by decide, trivial, trivial⟩, trivial⟩, trivial⟩⟩⟩
  | 5, _ => exact ⟨some ⟨b + 27, 0, none⟩, 3, 3, (.cons ⟨#[97]⟩ (.cons ⟨#[120]⟩ (.cons ⟨#[49]⟩ .nil .nil) .nil) (.cons ⟨#[98]⟩ (.cons ⟨#[121]⟩ (.cons ⟨#[50]⟩ .nil .nil) .nil) (.cons ⟨#[99]⟩ (.cons ⟨#[122]⟩ (.cons ⟨#[51]⟩ .nil .nil) .nil) .nil))), ⟨#[59, 32, 116, 111, 112, 10, 91, 97, 93, 10, 32, 32, 120, 32, 61, 32, 49, 32, 32, 10, 35, 32, 109, 105, 100, 10, 91, 98, 93, 10, 121, 61, 50, 10, 91, 99, 93, 10, 122, 61, 51, 10]⟩, c 28 5 rfl rfl, Nat.le_refl _, by simp [maxLen], ⟨b + 27, 0, rfl, by omega, c 27 0 rfl rfl, ⟨some ⟨b + 22, 0, none⟩, 1, 1, c 27 1 rfl rfl, Nat.le_refl _, by simp [maxLen], holds_one (hg 22 _ rfl) (by omega) (Nat.le_refl _) (by simp [maxLen]) (holds_one (hg 21 _ rfl) (by omega) (Nat.le_refl _) (by simp [maxLen]) rfl)⟩, 2, rfl, ⟨b + 27, 2, rfl, by omega, c 27 2 rfl rfl, ⟨some ⟨b + 24, 0, none⟩, 1, 1, c 27 3 rfl rfl, Nat.le_refl _, by simp [maxLen], holds_one (hg 24 _ rfl) (by omega) (Nat.le_refl _) (by simp [maxLen]) (holds_one (hg 23 _ rfl) (by omega) (Nat.le_refl _) (by simp [maxLen]) rfl)⟩, 1, rfl, ⟨b + 27, 4, rfl, by omega, c 27 4 rfl rfl, ⟨some ⟨b + 26, 0, none⟩, 1, 1, c 27 5 rfl rfl, Nat.le_refl _, by simp [maxLen], holds_one (hg 26 _ rfl) (by omega) (Nat.le_refl _) (by simp [maxLen]) (holds_one (hg 25 _ rfl) (by omega) (Nat.le_refl _) (by simp [maxLen]) rfl)⟩, 0, rfl, rfl⟩⟩⟩, c 29 5 rfl rfl, by decide +kernel, by decide, ⟨by decide, ⟨by decide, ⟨by decide, trivial, trivial⟩, trivial⟩, ⟨by decide, ⟨by decide, ⟨by decide, trivial, trivial⟩, trivial⟩, ⟨by decide, ⟨by decide, ⟨by decide, trivial, trivial⟩, trivial⟩, trivial⟩⟩⟩⟩
  | 6, _ => exact ⟨none, 0, 0, .nil, ⟨#[59, 32, 116, 111, 112, 10, 35, 32, 109, 105, 100, 10]⟩, c 28 6 rfl rfl, Nat.le_refl _, by simp [maxLen], rfl, c 29 6 rfl rfl, by decide +kernel, by decide, trivial⟩
  | k + 7, hk => exact absurd hk (by omega)

set_option maxHeartbeats 8000000 in
theorem writes_walk (a : Int) (w : World) (ha : -9223372036854775808 ≤ a ∧ a ≤ 9223372036854775807) (hG : Gl w) :
    Calls Tryz.prog 8 #[.int .i64 a] w fun e w' => e = .returned (.bool true) ∧ Below w.heap.size w w' := by
  have HK := Lib.hid (known_any w hG)
  obtain ⟨k, hk, HJ'⟩ := within_nat a 7 (by omega) (by omega) ha
  have HJ0 : Hid (∀ w, Calls Tryz.prog 13 #[.int .i64 a, .int .i64 7] w fun e w' => e = .returned (.int .i64 k) ∧ w = w') := Lib.hid HJ'
  have HG := Lib.hid hG
  have HKe := Lib.hid (fun (k v : ByteArray) (w : World) => keyOf_laid k v w)
  clear HJ' hG
  go_enter Tryz.func8, Tryz.ntmps8
  go_wp2_with fail
  (with_reducible refine HK.out.mono ?_)
  rintro e w1 ⟨rfl, hb1⟩
  go_wp2_with (go_at_call 29; (with_reducible refine (HKe.out _ _ _).mono ?_); rintro e w2 ⟨rfl, rfl⟩)
  have h7 := row7 w1 w1.heap.size rfl k hk
  have hbw := allocs_below (wLaid w1.heap.size) w1
  have hsz := allocs_size (wLaid w1.heap.size) w1
  obtain ⟨W, hW⟩ : ∃ W, W = allocs w1 (wLaid w1.heap.size) := ⟨_, rfl⟩
  rw [← hW] at h7 hbw hsz
  change Calls _ _ _ (allocs w1 (wLaid w1.heap.size)) _
  rw [← hW]
  have HGW := Lib.hid ((HG.out.below hb1).below hbw)
  have HBW := Lib.hid (hb1.trans (hbw.mono hb1.size))
  have b1 : (0 : Int) ≤ (k : Int) := by omega
  have b2 : (k : Int) < 7 := by omega
  have hsz2 : W.heap.size = w1.heap.size + 30 := hsz
  obtain ⟨A, n, c, T, wk, ct, hn, hc, hh, cw, hpm, hts, hnm⟩ := h7
  have hp := put_any T wB A n c W hh hn hc (by omega) hnm HGW.out
  rw [hpm] at hp
  unfold wB at hp
  have hwk : (wk.toList == wk.toList) = true := by simp
  have HP := Lib.hid hp
  have HC := Lib.hid (fun W' (hb : Below W.heap.size W W') => ((hb.cell (p := ⟨w1.heap.size + 29, k, none⟩) (by simp only; omega)).trans cw : W'.cell? ⟨w1.heap.size + 29, k, none⟩ = some (.string wk)))
  clear hsz hW hh hn hc hpm hts hnm hp hbw hb1
  (with_reducible refine (HJ0.out _).mono ?_)
  rintro e w3 ⟨rfl, rfl⟩
  go_wp2_with fail
  (with_reducible refine HP.out.mono ?_)
  rintro e w4 ⟨rfl, hb4⟩
  have cw4 := HC.out w4 hb4
  rw [show Li.encs (wk.data.toList, (0 : Int)).1 = .string wk from rfl]
  go_wp2_with fail
  go_ret
  exact ⟨rfl, HBW.out.trans (hb4.mono HBW.out.size)⟩
end Go.Proofs.YtgefoehpdiiomaaGreatDoor.In
