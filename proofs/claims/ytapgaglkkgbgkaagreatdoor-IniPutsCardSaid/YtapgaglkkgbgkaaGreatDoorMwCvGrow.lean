/- csv: a row of rows of one's own, being grown: the rows' fields lie in other blocks. No conditions. · csv's rows of lines. Conditions: texts of ASCII bytes, of 4000 at most; MaxLen's cell. · csv: what a record has below it. Conditions: that inOrder sorts a row of edges of one's own. · csv: the edge of a record. Conditions: that inOrder sorts a row of edges of one's own. · csv: the edges of records. Conditions: that inOrder sorts a row of edges of one's own. · csv: the tree of records; a file's columns. Conditions: that inOrder sorts a row of edges of one's own. · csv: a file's columns. No conditions but that the head has a field. · slices.SortFunc at edges, whole: the shelf pays for what lies below it · csv: rows of edges, told by their numbers; sorted. No conditions. · csv: inOrder sorts a row of edges of one's own. No conditions. · csv: what a file reads as: a tree, or the line at which it is none. No conditions. · ini: what a file says, as plain mathematics: its lines' rows, its parts, its tree. No conditions. · ini's words: what may be a value, a section's name, a key. Conditions: texts of 100000 bytes at most. -/
import Derived.Test.YtapgaglkkgbgkaaGreatDoorMwCvFlds
import Derived.Test.YtapgaglkkgbgkaaGreatDoorMwWords
import Derived.Outline
import Derived.Test.YtapgaglkkgbgkaaGreatDoorCvRec
import Derived.Deep.CutRange
import Derived.Test.YtapgaglkkgbgkaaGreatDoorMwEdg
import Derived.Deep.RegionHeld3
import Derived.Test.YtapgaglkkgbgkaaGreatDoorSortLay
import Derived.Lib.OwnBridge
import Derived.Lib.AppendIntMem
import Derived.Test.YtapgaglkkgbgkaaGreatDoorMwInOne
import Derived.Test.YtapgaglkkgbgkaaGreatDoorMwLiSplit
namespace Go.Proofs.YtapgaglkkgbgkaaGreatDoor.Cv
open Go.RowKit Go.Proofs.YtapgaglkkgbgkaaGreatDoor.Jd Go.Proofs.YtapgaglkkgbgkaaGreatDoor.Li
set_option maxRecDepth 100000

theorem own_cap' {w : World} {base n c size k : Nat} {e : TypeId} {A : Option Addr} {xs : List Value} (h : w.ownsRow base e size (.slice A n c) k xs) (hk : k = n) : n ≤ c ∧ c ≤ maxLen := by
  subst hk
  rcases h.2 with ⟨e, _⟩ | ⟨g, cap, cur, e, _, _, hn, hm, _⟩
  · injection e with _ h1 h2
    subst h1; subst h2
    exact ⟨Nat.le_refl _, Nat.zero_le _⟩
  · injection e with _ _ h2
    subst h2
    exact ⟨hn, hm⟩
structure SeesLP (w : World) (P : Nat → Prop) (A : Option Addr) (n : Nat) (ls : List Ln) : Prop where
  len : n = ls.length
  cell : ∀ (j : Nat) (u : Value), (lcells ls)[j]? = some u → ∃ b o, A = some ⟨b, o, none⟩ ∧ P b ∧ w.cell? ⟨b, o + j, none⟩ = some u
section
variable {w w' : World} {P P' : Nat → Prop} {n : Nat} {A : Option Addr} {ls : List Ln}
theorem SeesLP.keep (h : SeesLP w P A n ls) (hk : ∀ b o, P b → w'.cell? ⟨b, o, none⟩ = w.cell? ⟨b, o, none⟩) : SeesLP w' P A n ls :=
  ⟨h.len, fun j u hu => by
    obtain ⟨b, o, e, hb, hc⟩ := h.cell j u hu
    exact ⟨b, o, e, hb, (hk b _ hb).trans hc⟩⟩
theorem SeesLP.more (h : SeesLP w P A n ls) (hP : ∀ b, P b → P' b) : SeesLP w P' A n ls :=
  ⟨h.len, fun j u hu => by
    obtain ⟨b, o, e, hb, hc⟩ := h.cell j u hu
    exact ⟨b, o, e, hP b hb, hc⟩⟩
theorem SeesLP.sees {B : Nat} (h : SeesLP w P A n ls) (hP : ∀ b, P b → b < B) : SeesL w B A n ls :=
  ⟨h.len, fun j u hu => by
    obtain ⟨b, o, e, hb, hc⟩ := h.cell j u hu
    exact ⟨b, o, e, hP b hb, hc⟩⟩
end
def RwV (w : World) (P : Nat → Prop) : List Value → List Rw → Prop
  | [], [] => True
  | .slice A n c :: .string e :: vs, r :: rs => e = r.en ∧ n ≤ c ∧ c ≤ maxLen ∧ SeesLP w P A n r.fs ∧ RwV w P vs rs
  | _, _ => False
section
variable {w w' : World} {P P' : Nat → Prop}
theorem RwV.keep (hk : ∀ b o, P b → w'.cell? ⟨b, o, none⟩ = w.cell? ⟨b, o, none⟩) : ∀ {vs : List Value} {rs : List Rw}, RwV w P vs rs → RwV w' P vs rs
  | [], [], _ => trivial
  | .slice _ _ _ :: .string _ :: _, _ :: _, ⟨h1, h2, h3, h4, h5⟩ => ⟨h1, h2, h3, h4.keep hk, RwV.keep hk h5⟩
theorem RwV.more (hP : ∀ b, P b → P' b) : ∀ {vs : List Value} {rs : List Rw}, RwV w P vs rs → RwV w P' vs rs
  | [], [], _ => trivial
  | .slice _ _ _ :: .string _ :: _, _ :: _, ⟨h1, h2, h3, h4, h5⟩ => ⟨h1, h2, h3, h4.more hP, RwV.more hP h5⟩
theorem RwV.app : ∀ {vs us : List Value} {rs qs : List Rw}, RwV w P vs rs → RwV w P us qs → RwV w P (vs ++ us) (rs ++ qs)
  | [], _, [], _, _, h2 => h2
  | .slice _ _ _ :: .string _ :: _, _, _ :: _, _, ⟨h1, h2, h3, h4, h5⟩, h6 => ⟨h1, h2, h3, h4, RwV.app h5 h6⟩
theorem RwV.length : ∀ {vs : List Value} {rs : List Rw}, RwV w P vs rs → vs.length = rs.length * 2
  | [], [], _ => rfl
  | .slice _ _ _ :: .string _ :: _, _ :: _, ⟨_, _, _, _, h5⟩ => by
    have := RwV.length h5
    simp only [List.length_cons]
    omega
theorem RwV.at_ : ∀ {vs : List Value} {rs : List Rw} {k : Nat} {r : Rw}, RwV w P vs rs → rs[k]? = some r → ∃ A n c, vs[k * 2]? = some (.slice A n c) ∧ vs[k * 2 + 1]? = some (.string r.en) ∧ n ≤ c ∧ c ≤ maxLen ∧ SeesLP w P A n r.fs
  | [], [], _, _, _, h => by simp at h
  | .slice A n c :: .string e :: vs, r :: rs, 0, r', ⟨h1, h2, h3, h4, h5⟩, h => by
    simp only [List.getElem?_cons_zero, Option.some.injEq] at h
    subst h
    exact ⟨A, n, c, rfl, by rw [h1]; rfl, h2, h3, h4⟩
  | .slice A n c :: .string e :: vs, r :: rs, k + 1, r', ⟨h1, h2, h3, h4, h5⟩, h => by
    simp only [List.getElem?_cons_succ] at h
    rw [show (k + 1) * 2 = k * 2 + 1 + 1 by omega]
    exact RwV.at_ h5 h
end
section
variable {w w' : World} {base n c : Nat} {A : Option Addr} {rs : List Rw} {vs : List Value}
end
end Go.Proofs.YtapgaglkkgbgkaaGreatDoor.Cv
namespace Go.Proofs.YtapgaglkkgbgkaaGreatDoor.Cv
open Go.RowKit Go.Proofs.YtapgaglkkgbgkaaGreatDoor.Jd Go.Proofs.YtapgaglkkgbgkaaGreatDoor.Li
set_option maxRecDepth 100000

def rowF (x : Ln) : Rw := ⟨fldsL x.1, ⟨x.2.toArray⟩⟩
def rowsF : List Rw → Nat → List Ln → List Rw × Nat × Int
  | ahead, _, [] => (ahead, 0, 0)
  | ahead, i, x :: r => if faultF ahead (rowF x) ≠ 0 then ([], i + 1, faultF ahead (rowF x)) else rowsF (ahead ++ [rowF x]) (i + 1) r
theorem fault_fs {ahead : List Rw} {r : Rw} (h : ¬ faultF ahead r ≠ 0) : r.fs ≠ [] := fun e => h (by unfold faultF; rw [if_pos e]; decide)
theorem own_base {w : World} {base base' n size : Nat} {e : TypeId} {v : Value} {xs : List Value} (h : w.ownsRow base' e size v n xs) (hb : base ≤ base') : w.ownsRow base e size v n xs :=
  ⟨h.1, by
    rcases h.2 with hn | ⟨g, cap, cur, e1, hg, rest⟩
    · exact .inl hn
    · exact .inr ⟨g, cap, cur, e1, Nat.le_trans hb hg, rest⟩⟩
end Go.Proofs.YtapgaglkkgbgkaaGreatDoor.Cv
namespace Go.Proofs.YtapgaglkkgbgkaaGreatDoor.Cv
open Go.RowKit Go.Proofs.YtapgaglkkgbgkaaGreatDoor.Jd Go.Proofs.YtapgaglkkgbgkaaGreatDoor.Li Go.Proofs.YtapgaglkkgbgkaaGreatDoor.Cl
set_option maxRecDepth 100000

def rawB : List ByteArray → List ByteArray → Tr
  | c :: cs, v :: vs => if v.size = 0 then rawB cs vs else .cons c (.cons v .nil .nil) (rawB cs vs)
  | _, _ => .nil
end Go.Proofs.YtapgaglkkgbgkaaGreatDoor.Cv
namespace Go.Proofs.YtapgaglkkgbgkaaGreatDoor.Cv
open Go.RowKit Go.Proofs.YtapgaglkkgbgkaaGreatDoor.Jd Go.Proofs.YtapgaglkkgbgkaaGreatDoor.Li Go.Proofs.YtapgaglkkgbgkaaGreatDoor.Cl
set_option maxRecDepth 100000

end Go.Proofs.YtapgaglkkgbgkaaGreatDoor.Cv
namespace Go.Proofs.YtapgaglkkgbgkaaGreatDoor.Cv
open Go.RowKit Go.Proofs.YtapgaglkkgbgkaaGreatDoor.Jd Go.Proofs.YtapgaglkkgbgkaaGreatDoor.Li Go.Proofs.YtapgaglkkgbgkaaGreatDoor.Cl
set_option maxRecDepth 100000

def recsT (srt : Tr → Tr) (cols : List ByteArray) : List Rw → Tr
  | [] => .nil
  | r :: rs => .cons (nm r) (srt (rawB cols (mns r.fs.tail))) (recsT srt cols rs)
end Go.Proofs.YtapgaglkkgbgkaaGreatDoor.Cv
namespace Go.Proofs.YtapgaglkkgbgkaaGreatDoor.Cv
open Go.RowKit Go.Proofs.YtapgaglkkgbgkaaGreatDoor.Jd Go.Proofs.YtapgaglkkgbgkaaGreatDoor.Li Go.Proofs.YtapgaglkkgbgkaaGreatDoor.Cl
set_option maxRecDepth 100000

end Go.Proofs.YtapgaglkkgbgkaaGreatDoor.Cv
namespace Go.Proofs.YtapgaglkkgbgkaaGreatDoor.Cv
open Go.RowKit Go.Proofs.YtapgaglkkgbgkaaGreatDoor.Jd Go.Proofs.YtapgaglkkgbgkaaGreatDoor.Li Go.Proofs.YtapgaglkkgbgkaaGreatDoor.Cl
set_option maxRecDepth 100000

end Go.Proofs.YtapgaglkkgbgkaaGreatDoor.Cv
namespace Go.Proofs
open Go.Shelf Go.RowKit Go.Lib Go.Sort
set_option maxHeartbeats 2000000 in
set_option maxRecDepth 100000 in
theorem sortEdge_eq {α : Type} [Inhabited α] (enc : α → List Value) (hk : ∀ x, (enc x).length = 2) (h1 : ∀ x, ∀ v ∈ enc x, v.oneCell' = true) (cf : α → α → Int) (hO : SWO (ltOf cf)) (g : Nat) (cb : Array Value) (blk off cap : Nat) (d : Array α) (w : World)
    (eg : ∀ args w, (callFunc g args).run Tryz.prog w = .ok (.enter g args) w) (hcmp : CmpLays Tryz.prog g cb enc 2 cf blk off d.size w) (hH : HoldsK enc 2 w blk off d) (hblk : blk < w.heap.size) (hsz : d.size < 4611686018427387904) :
    Calls Tryz.prog 95 #[.slice (some ⟨blk, off, none⟩) d.size cap, .func (.func g) #[] cb] w fun e w' =>
      e = .returned (.tuple #[]) ∧ ∃ n os, w' = sortWorldK enc 2 w blk off n (pdq (ltOf cf) d 0 d.size (Lib.bitLen d.size) true true) os := by
  have hlim : Lib.bitLen d.size < 4611686018427387904 := Nat.lt_of_le_of_lt (Lib.bitLen_le d.size 62 (by omega) (by omega)) (by omega)
  have hp := AnyQ.pdqsortCmpFunc_all Tryz.sortEdge 2 (fun w => rfl) (fun w => rfl) enc cf g cb hO blk off cap d w eg hcmp ⟨hk, h1, hH, hblk⟩ (d.size + 1) 0 d.size (Lib.bitLen d.size) d w (by omega) rfl (SWK.start hH) (Nat.zero_le _) (Nat.le_refl _) hsz hlim (Or.inl rfl)
  have hl : Calls Tryz.prog 114 #[.int .u64 (d.size : Int)] w fun e w' => e = .returned (.int .i64 (Lib.bitLen d.size : Nat)) ∧ w' = w := by
    have h := Tryz.bits_Len (d.size : Int) w (by omega) (by omega)
    rwa [Int.toNat_natCast] at h
  have wr : IntKind.u64.wrap (d.size : Int) = d.size := by simp [IntKind.wrap, IntKind.bits, IntKind.signed]; omega
  change Calls Tryz.prog 113 #[.slice (some ⟨blk, off, none⟩) d.size cap, .int .i64 0, .int .i64 (d.size : Int), .int .i64 (Lib.bitLen d.size : Nat), .func (.func g) #[] cb] w _ at hp
  generalize pdq (ltOf cf) d 0 d.size (Lib.bitLen d.size) true true = D at hp ⊢
  have HL := Lib.hid hl
  have HP := Lib.hid hp
  clear hH hcmp hk h1 hl hp
  go_enter Tryz.func95, Tryz.ntmps95
  go_wp2_with fail
  (with_reducible refine HL.out.mono ?_)
  rintro e w' ⟨rfl, rfl⟩
  go_wp2_with fail
  (with_reducible refine HP.out.mono ?_)
  rintro e w' ⟨rfl, n, os, rfl⟩
  go_wp2_with fail
  go_end0
  exact ⟨rfl, n, os, rfl⟩
end Go.Proofs
namespace Go.Proofs.YtapgaglkkgbgkaaGreatDoor.Cv
open Go.RowKit Go.Sort Go.Proofs.YtapgaglkkgbgkaaGreatDoor.Jd Go.Proofs.YtapgaglkkgbgkaaGreatDoor.Li Go.Proofs.YtapgaglkkgbgkaaGreatDoor.Cl
set_option maxRecDepth 100000

def nmE : Tr → Nat → ByteArray
  | .nil, _ => ByteArray.empty
  | .cons s _ _, 0 => s
  | .cons _ _ r, i + 1 => nmE r i
def kdE : Tr → Nat → Tr
  | .nil, _ => .nil
  | .cons _ k _, 0 => k
  | .cons _ _ r, i + 1 => kdE r i
def slE : List Value → Nat → Value
  | _ :: .slice A n c :: _, 0 => .slice A n c
  | _ :: _ :: r, i + 1 => slE r i
  | _, _ => .slice none 0 0
theorem slE_form : ∀ (vs : List Value) (i : Nat), ∃ A n c, slE vs i = .slice A n c
  | vs, i => by
    unfold slE
    split
    · exact ⟨_, _, _, rfl⟩
    · exact slE_form _ _
    · exact ⟨_, _, _, rfl⟩
termination_by vs => vs.length
def ofI (t : Tr) : List Nat → Tr
  | [] => .nil
  | i :: r => .cons (nmE t i) (kdE t i) (ofI t r)
def celI (t : Tr) (vs : List Value) : List Nat → List Value
  | [] => []
  | i :: r => .string (nmE t i) :: slE vs i :: celI t vs r
def encE (t : Tr) (vs : List Value) (i : Nat) : List Value := [.string (nmE t i), slE vs i]
def cfE (t : Tr) (i j : Nat) : Int := Lib.compareBytes (nmE t i).data.toList (nmE t j).data.toList
def srtE (t : Tr) : Tr := ofI t (pdq (ltOf (cfE t)) (Array.range t.len) 0 t.len (Lib.bitLen t.len) true true).toList

theorem cmpB_lt : ∀ (a b : List UInt8), Lib.compareBytes a b < 0 ∨ Lib.compareBytes a b = 0 ∧ a = b ∨ 0 < Lib.compareBytes a b
  | [], [] => .inr (.inl ⟨rfl, rfl⟩)
  | [], _ :: _ => .inl (by simp [Lib.compareBytes])
  | _ :: _, [] => .inr (.inr (by simp [Lib.compareBytes]))
  | a :: u, b :: v => by
    rw [Lib.compareBytes]
    split
    · exact .inl (by omega)
    · split
      · exact .inr (.inr (by omega))
      · rename_i h1 h2
        have e : a = b := by
          apply UInt8.toNat_inj.1
          have h1' : ¬ a.toNat < b.toNat := h1
          have h2' : ¬ b.toNat < a.toNat := h2
          omega
        subst e
        rcases cmpB_lt u v with h | ⟨h, h'⟩ | h
        · exact .inl h
        · exact .inr (.inl ⟨h, by rw [h']⟩)
        · exact .inr (.inr h)
theorem cmpB_flip : ∀ (a b : List UInt8), Lib.compareBytes a b = -Lib.compareBytes b a
  | [], [] => rfl
  | [], _ :: _ => rfl
  | _ :: _, [] => rfl
  | a :: u, b :: v => by
    rw [Lib.compareBytes, Lib.compareBytes]
    have hab : a < b ↔ a.toNat < b.toNat := Iff.rfl
    have hba : b < a ↔ b.toNat < a.toNat := Iff.rfl
    by_cases h1 : a < b
    · rw [if_pos h1, if_neg (fun h => by have := hab.1 h1; have := hba.1 h; omega), if_pos h1]
    · rw [if_neg h1]
      by_cases h2 : b < a
      · rw [if_pos h2, if_pos h2]; rfl
      · rw [if_neg h2, if_neg h2, if_neg h1, cmpB_flip u v]
theorem cmpB_trans : ∀ (a b c : List UInt8), Lib.compareBytes a b ≤ 0 → Lib.compareBytes b c ≤ 0 → Lib.compareBytes a c ≤ 0 ∧ (Lib.compareBytes a b < 0 ∨ Lib.compareBytes b c < 0 → Lib.compareBytes a c < 0)
  | [], [], [], _, _ => by simp [Lib.compareBytes]
  | [], [], _ :: _, _, _ => by simp [Lib.compareBytes]
  | [], _ :: _, [], _, h => by simp [Lib.compareBytes] at h
  | [], _ :: _, _ :: _, _, _ => by simp [Lib.compareBytes]
  | _ :: _, [], _, h, _ => by simp [Lib.compareBytes] at h
  | _ :: _, _ :: _, [], _, h => by simp [Lib.compareBytes] at h
  | a :: u, b :: v, c :: z, h1, h2 => by
    rw [Lib.compareBytes] at h1 h2 ⊢
    rw [Lib.compareBytes, Lib.compareBytes]
    have hab : a < b ↔ a.toNat < b.toNat := Iff.rfl
    have hba : b < a ↔ b.toNat < a.toNat := Iff.rfl
    have hbc : b < c ↔ b.toNat < c.toNat := Iff.rfl
    have hcb : c < b ↔ c.toNat < b.toNat := Iff.rfl
    have hac : a < c ↔ a.toNat < c.toNat := Iff.rfl
    have hca : c < a ↔ c.toNat < a.toNat := Iff.rfl
    have ih := cmpB_trans u v z
    split at h1
    · rename_i x1
      split at h2
      · rename_i x2
        rw [if_pos (hac.2 (by have := hab.1 x1; have := hbc.1 x2; omega))]; omega
      · split at h2
        · omega
        · rename_i x2 x3
          have : ¬ b.toNat < c.toNat := x2
          have : ¬ c.toNat < b.toNat := x3
          rw [if_pos (hac.2 (by have := hab.1 x1; omega))]; omega
    · split at h1
      · omega
      · rename_i x1 x2
        have y1 : ¬ a.toNat < b.toNat := x1
        have y2 : ¬ b.toNat < a.toNat := x2
        split at h2
        · rename_i x3
          rw [if_pos (hac.2 (by have := hbc.1 x3; omega))]; omega
        · split at h2
          · omega
          · rename_i x3 x4
            have y3 : ¬ b.toNat < c.toNat := x3
            have y4 : ¬ c.toNat < b.toNat := x4
            rw [if_neg x1, if_neg x2, if_neg x3, if_neg x4, if_neg (fun h => by have := hac.1 h; omega), if_neg (fun h => by have := hca.1 h; omega)]
            exact ih h1 h2
theorem ltE (t : Tr) (x y : Nat) : ltOf (cfE t) x y = decide (Lib.compareBytes (nmE t x).data.toList (nmE t y).data.toList < 0) := rfl
theorem swoE (t : Tr) : SWO (ltOf (cfE t)) where
  irrefl x := by
    have h := cmpB_flip (nmE t x).data.toList (nmE t x).data.toList
    rw [ltE]
    exact decide_eq_false (by omega)
  trans x y z h1 h2 := by
    rw [ltE] at *
    have h1 := of_decide_eq_true h1
    have h2 := of_decide_eq_true h2
    exact decide_eq_true ((cmpB_trans (nmE t x).data.toList (nmE t y).data.toList (nmE t z).data.toList (by omega) (by omega)).2 (.inl h1))
  ntrans x y z h1 h2 := by
    rw [ltE] at *
    have h1 := of_decide_eq_false h1
    have h2 := of_decide_eq_false h2
    have a := cmpB_flip (nmE t x).data.toList (nmE t y).data.toList
    have b := cmpB_flip (nmE t y).data.toList (nmE t z).data.toList
    have c := cmpB_flip (nmE t x).data.toList (nmE t z).data.toList
    have d := (cmpB_trans (nmE t z).data.toList (nmE t y).data.toList (nmE t x).data.toList (by omega) (by omega)).1
    exact decide_eq_false (by omega)

theorem celI_len (t : Tr) (vs : List Value) : ∀ is : List Nat, (celI t vs is).length = is.length * 2
  | [] => rfl
  | _ :: r => by simp only [celI, List.length_cons, celI_len t vs r]; omega
theorem celI_get (t : Tr) (vs : List Value) : ∀ (is : List Nat) (j : Nat), j < is.length * 2 → (celI t vs is)[j]? = some ((encE t vs (is[j / 2]!))[j % 2]!)
  | [], j, h => by simp at h
  | i :: r, 0, _ => rfl
  | i :: r, 1, _ => rfl
  | i :: r, j + 2, h => by
    have h' : j < r.length * 2 := by simp only [List.length_cons] at h; omega
    have e := celI_get t vs r j h'
    rw [show (j + 2) / 2 = j / 2 + 1 by omega, show (j + 2) % 2 = j % 2 by omega]
    simpa [celI] using e
theorem flatE (t : Tr) (vs : List Value) (d : Array Nat) : (flatK (encE t vs) 2 d).toList = celI t vs d.toList := by
  apply List.ext_getElem?
  intro j
  by_cases h : j < d.size * 2
  · rw [celI_get t vs _ j (by simpa using h), Array.getElem?_toList]
    have e := get_flatK (encE t vs) 2 d j h
    rw [getElem!_pos _ j (by simpa using h)] at e
    rw [Array.getElem?_eq_getElem (by simpa using h), e]
    congr 3
    have h2 : j / 2 < d.size := by omega
    rw [getElem!_pos d _ h2, getElem!_pos d.toList _ (by simpa using h2)]
    simp
  · rw [List.getElem?_eq_none (by simp; omega), List.getElem?_eq_none (by rw [celI_len]; simp; omega)]
section
variable {w w' : World} {P : Nat → Prop}
theorem rowP_at : ∀ {vs : List Value} {t : Tr} {i : Nat}, RowP w P vs t → i < t.len → ∃ A n c, slE vs i = .slice A n c ∧ n ≤ c ∧ c ≤ maxLen ∧ HoldsP w P A n (kdE t i)
  | [], .nil, i, _, h => by simp [Tr.len] at h
  | .string _ :: .slice A n c :: vs, .cons _ _ r, 0, ⟨_, h2, h3, h4, _⟩, _ => ⟨A, n, c, rfl, h2, h3, h4⟩
  | .string _ :: .slice A n c :: vs, .cons _ _ r, i + 1, ⟨_, _, _, _, h5⟩, h => by
    have := rowP_at (i := i) h5 (by simp only [Tr.len] at h; omega)
    simpa [slE, kdE] using this
theorem rowP_ofI {vs : List Value} {t : Tr} (h : RowP w P vs t) : ∀ {is : List Nat}, (∀ i ∈ is, i < t.len) → RowP w P (celI t vs is) (ofI t is)
  | [], _ => trivial
  | i :: r, hi => by
    obtain ⟨A, n, c, e, h1, h2, h3⟩ := rowP_at h (hi i (by simp))
    rw [celI, ofI, e]
    exact ⟨rfl, h1, h2, h3, rowP_ofI h (fun j hj => hi j (by simp [hj]))⟩
theorem rowP_cel : ∀ {vs : List Value} {t : Tr}, RowP w P vs t → ∀ (j : Nat), j < t.len * 2 → vs[j]? = some ((encE t vs (j / 2))[j % 2]!)
  | [], .nil, _, j, h => by simp [Tr.len] at h
  | .string s :: .slice A n c :: vs, .cons s' _ r, h0, 0, h => by obtain ⟨rfl, _⟩ := h0; rfl
  | .string s :: .slice A n c :: vs, .cons s' _ r, h0, 1, h => rfl
  | .string s :: .slice A n c :: vs, .cons s' _ r, h0, j + 2, h => by
    obtain ⟨_, _, _, _, h5⟩ := h0
    have := rowP_cel h5 j (by simp only [Tr.len] at h; omega)
    rw [show (j + 2) / 2 = j / 2 + 1 by omega, show (j + 2) % 2 = j % 2 by omega]
    simpa [encE, nmE, slE] using this
end
end Go.Proofs.YtapgaglkkgbgkaaGreatDoor.Cv
namespace Go.Proofs.YtapgaglkkgbgkaaGreatDoor.Cv
open Go.RowKit Go.Proofs.YtapgaglkkgbgkaaGreatDoor.Jd Go.Proofs.YtapgaglkkgbgkaaGreatDoor.Li Go.Proofs.YtapgaglkkgbgkaaGreatDoor.Cl
set_option maxRecDepth 100000

theorem ownsRow_put2 {w : World} {base : Nat} {e : TypeId} {g n cap q : Nat} {xs : List Value} {F : Array Value} (h : w.ownsRow base e 2 (.slice (some ⟨g, 0, none⟩) n cap) n xs) (hF : F.size = n * 2) :
    (Sort.putRow id (Sort.ahead w q) g 0 F).ownsRow base e 2 (.slice (some ⟨g, 0, none⟩) n cap) n F.toList := by
  rcases h.2 with ⟨e0, _⟩ | ⟨g', cap', cur, e0, hb, hg, hn, hm, hs, ht⟩
  · cases e0
  · injection e0 with e1 _ e3
    injection e1 with e1
    injection e1 with e1
    subst e1; subst e3
    refine ⟨by simpa using hF, .inr ⟨g, cap, Sort.putCells id 0 F cur, rfl, hb, ?_, hn, hm, by simpa [Sort.putCells] using hs, ?_⟩⟩
    · simp [Sort.putRow, Sort.mapBlock, Sort.ahead, Array.getElem?_modify, hg, Sort.onCells]
    · apply List.ext_getElem?
      intro j
      rw [List.getElem?_take, Array.getElem?_toList, Array.getElem?_toList]
      by_cases hj : j < n * 2
      · have hjc : j < cur.size := by omega
        have hjF : j < F.size := by omega
        simp only [if_pos hj, Sort.putCells, Array.getElem?_mapIdx, Array.getElem?_eq_getElem hjc, Array.getElem?_eq_getElem hjF, Option.map_some]
        rw [if_pos (by omega)]
        simp [getElem!_pos, hjF]
      · rw [if_neg hj, Array.getElem?_eq_none (by omega)]

theorem edg_sorted {t : Tr} {vs : List Value} {w : World} {base g n cap : Nat} (h : Edg w base base (some ⟨g, 0, none⟩) n cap t vs) (hB : base ≤ w.heap.size) (hgb : base ≤ g) (D : Array Nat) (hD : D.size = n) (hi : ∀ i ∈ D.toList, i < t.len) (m : Nat) (os : Array Obj) :
    Edg (sortWorldK (encE t vs) 2 w g 0 m D os) base base (some ⟨g, 0, none⟩) n cap (ofI t D.toList) (celI t vs D.toList) ∧ Below base w (sortWorldK (encE t vs) 2 w g 0 m D os) := by
  have own1 := ownsRow_put2 (q := m) (F := Sort.flatK (encE t vs) 2 D) h.own (by simp [hD])
  rw [flatE] at own1
  have own2 := Lib.ownsRow_grow own1 0 os
  have b1 : Below base w (Sort.putRow id (Sort.ahead w m) g 0 (Sort.flatK (encE t vs) 2 D)) := Lib.below_putRow (Below.refl base w) hgb
  have b2 := Lib.below_grow (Sort.putRow id (Sort.ahead w m) g 0 (Sort.flatK (encE t vs) 2 D)).heap.size (Sort.putRow id (Sort.ahead w m) g 0 (Sort.flatK (encE t vs) 2 D)) (Nat.le_refl _) 0 os
  have b3 := Lib.below_grow base (Sort.putRow id (Sort.ahead w m) g 0 (Sort.flatK (encE t vs) 2 D)) (Nat.le_trans hB b1.size) 0 os
  refine ⟨⟨own2, ?_⟩, b1.trans b3⟩
  refine ((rowP_ofI h.row hi).keep (w' := sortWorldK (encE t vs) 2 w g 0 m D os) fun b o hb => ?_).more fun b hb => ⟨hb.1, Nat.lt_of_lt_of_le hb.2.1 (Nat.le_trans b1.size b3.size), hb.2.2⟩
  have hne : b ≠ g := fun e => hb.2.2 (by rw [e]; rfl)
  have e1 := b2.cell (p := ⟨b, o, none⟩) (Nat.lt_of_lt_of_le hb.2.1 b1.size)
  have e2 := Sort.cell?_putRow_other id (Sort.ahead w m) g 0 (Sort.flatK (encE t vs) 2 D) ⟨b, o, none⟩ (Or.inl hne)
  exact e1.trans e2

theorem pdq_mem (t : Tr) : (Sort.pdq (ltOf (cfE t)) (Array.range t.len) 0 t.len (Lib.bitLen t.len) true true).size = t.len ∧ (Sort.pdq (ltOf (cfE t)) (Array.range t.len) 0 t.len (Lib.bitLen t.len) true true).toList.Perm (List.range t.len) ∧ Sort.SortedIn (ltOf (cfE t)) 0 t.len (Sort.pdq (ltOf (cfE t)) (Array.range t.len) 0 t.len (Lib.bitLen t.len) true true) := by
  have hs := Sort.pdq_sorts (ltOf (cfE t)) (swoE t) (Array.range t.len) 0 t.len (Lib.bitLen t.len) true true (Nat.zero_le _) (by simp) (Or.inl rfl)
  obtain ⟨⟨h1, _, h3⟩, h4⟩ := hs
  have h1' : (Sort.pdq (ltOf (cfE t)) (Array.range t.len) 0 t.len (Lib.bitLen t.len) true true).size = t.len := by simpa using h1
  refine ⟨h1', ?_, h4⟩
  have ex : ∀ (d : Array Nat) (n : Nat), d.size = n → d.extract 0 n = d := fun d n h => by subst h; simp
  have e1 := ex _ _ h1'
  have e2 := ex (Array.range t.len) t.len (by simp)
  rw [e1, e2] at h3
  simpa using h3
theorem srtE_nil : srtE .nil = .nil := by
  have h := (pdq_mem .nil).1
  unfold srtE
  generalize Sort.pdq (ltOf (cfE .nil)) (Array.range (Tr.len .nil)) 0 (Tr.len .nil) (Lib.bitLen (Tr.len .nil)) true true = D at h ⊢
  have h' : D.size = 0 := h
  have e : D.toList = [] := List.eq_nil_of_length_eq_zero (by simpa using h')
  rw [e]; rfl

set_option maxHeartbeats 2000000 in
theorem sortEdge_none (fv : Value) (w : World) : Calls Tryz.prog 95 #[.slice none 0 0, fv] w fun e w' => e = .returned (.tuple #[]) ∧ w' = w := by
  have HP := Lib.hid (fun lim W => AnyF.pdqsortCmpFunc_none Tryz.sortEdge none 0 lim fv W)
  have HL := Lib.hid (Tryz.bits_Len 0 w (by omega) (by omega))
  go_enter Tryz.func95, Tryz.ntmps95
  go_wp2_with fail
  (with_reducible refine HL.out.mono ?_)
  rintro e w' ⟨rfl, rfl⟩
  go_wp2_with fail
  refine (HP.out _ _).mono ?_
  rintro e w' ⟨rfl, rfl⟩
  go_wp2_with fail
  go_end0
  exact ⟨rfl, rfl⟩

end Go.Proofs.YtapgaglkkgbgkaaGreatDoor.Cv
namespace Go.Proofs.YtapgaglkkgbgkaaGreatDoor.Cv
open Go.RowKit Go.Sort Go.Proofs.YtapgaglkkgbgkaaGreatDoor.Jd Go.Proofs.YtapgaglkkgbgkaaGreatDoor.Li Go.Proofs.YtapgaglkkgbgkaaGreatDoor.Cl
set_option maxRecDepth 100000

theorem size_ofI (t : Tr) : ∀ is : List Nat, (ofI t is).size = (is.map fun i => (kdE t i).size + 1).sum
  | [] => rfl
  | i :: r => by simp only [ofI, Tr.size, List.map_cons, List.sum_cons, size_ofI t r]; omega
theorem size_all : ∀ t : Tr, t.size = ((List.range t.len).map fun i => (kdE t i).size + 1).sum
  | .nil => rfl
  | .cons s k r => by
    rw [Tr.size, Tr.len, List.range_succ_eq_map, List.map_cons, List.map_map, List.sum_cons, size_all r]
    simp only [kdE, Function.comp_def]
    omega
theorem srtE_size (t : Tr) : (srtE t).size = t.size := by
  rw [srtE, size_ofI, size_all t]
  exact ((pdq_mem t).2.1.map _).sum_nat
theorem nm_at : ∀ (t : Tr) (i : Nat), Tr.Nm t → (nmE t i).size ≤ 140737488351232 ∧ Tr.Nm (kdE t i)
  | .nil, _, _ => ⟨by simp [nmE], trivial⟩
  | .cons _ _ _, 0, h => ⟨h.1, h.2.1⟩
  | .cons _ _ r, i + 1, h => nm_at r i h.2.2
theorem nm_ofI (t : Tr) (h : Tr.Nm t) : ∀ is : List Nat, Tr.Nm (ofI t is)
  | [] => trivial
  | i :: r => ⟨(nm_at t i h).1, (nm_at t i h).2, nm_ofI t h r⟩
theorem srtE_nm (t : Tr) (h : Tr.Nm t) : Tr.Nm (srtE t) := nm_ofI t h _
def colsR (h : Rw) : List ByteArray := mns h.fs.tail
def treeR : List Rw → Tr
  | [] => .nil
  | h :: t => srtE (recsT srtE (colsR h) t)
def readF (l : Bs) : Tr × Nat × Int :=
  if 4000 < l.length then (.nil, 0, 5) else
  if (rowsF [] 0 (split l)).2.2 ≠ 0 then (.nil, (rowsF [] 0 (split l)).2.1, (rowsF [] 0 (split l)).2.2) else
  match (rowsF [] 0 (split l)).1 with
  | [] => (.nil, 0, 2)
  | h :: t => if (treeR (h :: t)).fault ≠ 0 then (.nil, 0, ((treeR (h :: t)).fault : Nat)) else (treeR (h :: t), 0, 0)
theorem spl_lens : ∀ (r cur : Bs) (x : Ln), x ∈ spl cur r → x.1.length ≤ cur.length + r.length := fun r cur x hx => by
  have hj := join_spl r cur
  have : ∀ (l : List Ln) (x : Ln), x ∈ l → x.1.length ≤ (join l).length := by
    intro l
    induction l with
    | nil => intro x hx; cases hx
    | cons y l ih =>
      intro x hx
      simp only [join, List.length_append]
      rcases List.mem_cons.1 hx with rfl | hx
      · omega
      · have := ih x hx; omega
  have h := this _ x hx
  rw [hj, List.length_append] at h
  exact h
theorem split_lens (l : Bs) : ∀ x ∈ split l, x.1.length ≤ l.length := fun x hx => by
  have := spl_lens l [] x hx
  simpa using this
end Go.Proofs.YtapgaglkkgbgkaaGreatDoor.Cv
namespace Go.Proofs.YtapgaglkkgbgkaaGreatDoor.In
open Go.RowKit Go.Proofs.YtapgaglkkgbgkaaGreatDoor.Li Go.Proofs.YtapgaglkkgbgkaaGreatDoor.Cv
set_option maxRecDepth 100000

def front (s : Bs) : Bs := s.take (tl s)
def mid (s : Bs) : Bs := (s.take (en s)).drop (tl s)
def vB (s : Bs) : Bool := (mid s == s) && decide (s.length ≤ 80) && !(Lib.containsAny s [10, 13])
def sB (s : Bs) : Bool := !(s == []) && vB s && !(Lib.containsAny s [91, 93])
def kB (s : Bs) : Bool := !(s == []) && vB s && !(s.contains 61) && !(Lib.containsAny (s.take 1) [91, 59, 35])
structure Ro where
  ln : Ln
  kind : Nat
  name : Bs
  val : Bs
  pos : Nat
def no : Ro := ⟨([], []), 0, [], [], 0⟩
def headR (x : Ln) (r : Bs) : Ro := if r.getLast? = some 93 ∧ sB r.dropLast = true then ⟨x, 2, r.dropLast, [], 0⟩ else no
def ahead (s : Bs) : Bs := s.takeWhile (· != 61)
def behind (s : Bs) : Bs := s.drop ((ahead s).length + 1)
def keyR (x : Ln) : Ro :=
  if x.1.contains 61 = true ∧ kB (mid (ahead x.1)) = true ∧ vB (mid (behind x.1)) = true then
    ⟨x, 3, mid (ahead x.1), mid (behind x.1), (ahead x.1).length + 1 + (if mid (behind x.1) = [] then 0 else (front (behind x.1)).length)⟩ else no
def rowI (x : Ln) : Ro :=
  if x.1.contains 13 = true then no else
  match mid x.1 with
  | [] => ⟨x, 1, [], [], 0⟩
  | c :: r => if c = 59 ∨ c = 35 then ⟨x, 1, [], [], 0⟩ else if c = 91 then headR x r else keyR x
structure Pt where
  name : Bs
  rows : List Ro
def lastP (ps : List Pt) : Pt := ps.getLast?.getD ⟨[], []⟩
def faultI (ps : List Pt) (r : Ro) : Int :=
  if r.kind = 0 ∨ (r.kind = 3 ∧ ps.length = 1) then 6 else
  if r.kind = 2 ∧ (ps.any fun p => p.name == r.name) = true then 7 else
  if r.kind = 3 ∧ ((lastP ps).rows.any fun x => x.kind == 3 && x.name == r.name) = true then 7 else 0
def addI (ps : List Pt) (r : Ro) : List Pt := if r.kind = 2 then ps ++ [⟨r.name, [r]⟩] else ps.dropLast ++ [⟨(lastP ps).name, (lastP ps).rows ++ [r]⟩]
def partsI : List Pt → Nat → List Ln → List Pt × Nat × Int
  | ps, _, [] => (ps, 0, 0)
  | ps, i, x :: l => if faultI ps (rowI x) ≠ 0 then ([], i + 1, faultI ps (rowI x)) else partsI (addI ps (rowI x)) (i + 1) l
def keysT : List Ro → Tr
  | [] => .nil
  | r :: rs => if r.kind = 3 then .cons ⟨r.name.toArray⟩ (.cons ⟨r.val.toArray⟩ .nil .nil) (keysT rs) else keysT rs
def secsT : List Pt → Tr
  | [] => .nil
  | p :: ps => .cons ⟨p.name.toArray⟩ (srtE (keysT p.rows)) (secsT ps)
def treeI (ps : List Pt) : Tr := srtE (secsT ps.tail)
def readI (l : Bs) : Tr × Nat × Int :=
  if 4000 < l.length then (.nil, 0, 5) else
  if (partsI [⟨[], []⟩] 0 (split l)).2.2 ≠ 0 then (.nil, (partsI [⟨[], []⟩] 0 (split l)).2.1, (partsI [⟨[], []⟩] 0 (split l)).2.2) else
  if (treeI (partsI [⟨[], []⟩] 0 (split l)).1).fault ≠ 0 then (.nil, 0, ((treeI (partsI [⟨[], []⟩] 0 (split l)).1).fault : Nat)) else
  (treeI (partsI [⟨[], []⟩] 0 (split l)).1, 0, 0)
end Go.Proofs.YtapgaglkkgbgkaaGreatDoor.In
namespace Go.Proofs.YtapgaglkkgbgkaaGreatDoor.In
open Go.RowKit Go.Proofs.YtapgaglkkgbgkaaGreatDoor.Li Go.Proofs.YtapgaglkkgbgkaaGreatDoor.Cv
set_option maxRecDepth 100000

theorem mi_mid (s : ByteArray) : (mi s).data.toList = mid s.data.toList := rfl
theorem empty_eq (s : ByteArray) : (s.toList == ([] : List UInt8)) = (s.data.toList == []) := by rw [ByteArray.toList_eq]
theorem same_eq' (s t : ByteArray) : (s.toList == t.toList) = (s.data.toList == t.data.toList) := by rw [ByteArray.toList_eq, ByteArray.toList_eq]
set_option maxHeartbeats 1000000 in
theorem value_any (s : ByteArray) (w : World) (hs : s.size ≤ 100000) : Calls Tryz.prog 77 #[.string s] w fun e w' => e = .returned (.bool (In.vB s.data.toList)) ∧ Below w.heap.size w w' := by
  have HT := Lib.hid (trim_any s w (by omega))
  obtain ⟨u, hu⟩ : ∃ u, u = ((mi s).toList == s.toList) := ⟨_, rfl⟩
  have hV : In.vB s.data.toList = (u && decide (s.size ≤ 80) && !(Lib.containsAny s.data.toList [10, 13])) := by
    rw [In.vB, hu, same_eq', mi_mid]; rfl
  have hu' := hu.symm
  have HV := Lib.hid hV
  clear hu hV
  cases u with
  | false =>
    go_enter Tryz.func77, Tryz.ntmps77
    go_wp2_with fail
    (with_reducible refine HT.out.mono ?_)
    rintro e w1 ⟨rfl, hb1⟩
    go_wp2_with fail
    go_ret
    exact ⟨by rw [HV.out]; rfl, hb1⟩
  | true =>
    by_cases hz : s.size ≤ 80
    · have HC := Lib.hid (fun W => containsAny_nr s W (by omega))
      obtain ⟨v, hv⟩ : ∃ v, v = Lib.containsAny s.data.toList [10, 13] := ⟨_, rfl⟩
      rw [← hv] at HC HV
      rw [decide_eq_true hz] at HV
      have hz' : (s.size : Int) ≤ 80 := by omega
      clear hv hz
      go_enter Tryz.func77, Tryz.ntmps77
      go_wp2_with fail
      (with_reducible refine HT.out.mono ?_)
      rintro e w1 ⟨rfl, hb1⟩
      go_wp2_with fail
      (with_reducible refine (HC.out _).mono ?_)
      rintro e w2 ⟨rfl, hb2⟩
      go_wp2_with fail
      go_ret
      exact ⟨by rw [HV.out]; rfl, hb1.trans (hb2.mono hb1.size)⟩
    · rw [decide_eq_false hz] at HV
      have hz' : ¬ (s.size : Int) ≤ 80 := by omega
      clear hz
      go_enter Tryz.func77, Tryz.ntmps77
      go_wp2_with fail
      (with_reducible refine HT.out.mono ?_)
      rintro e w1 ⟨rfl, hb1⟩
      go_wp2_with fail
      go_ret
      exact ⟨by rw [HV.out]; rfl, hb1⟩
set_option maxHeartbeats 1000000 in
theorem section_any (s : ByteArray) (w : World) (hs : s.size ≤ 100000) : Calls Tryz.prog 57 #[.string s] w fun e w' => e = .returned (.bool (sB s.data.toList)) ∧ Below w.heap.size w w' := by
  have HC := Lib.hid (fun W => value_any s W hs)
  have HD := Lib.hid (fun W => containsAny_br s W (by omega))
  obtain ⟨u, hu⟩ : ∃ u, u = (s.data.toList == []) := ⟨_, rfl⟩
  have he : (s.toList == ([] : List UInt8)) = u := by rw [empty_eq, hu]
  have HV : Hid (sB s.data.toList = (!u && In.vB s.data.toList && !(Lib.containsAny s.data.toList [91, 93]))) := Lib.hid (by rw [sB, hu])
  clear hu hs
  cases u with
  | true =>
    go_enter Tryz.func57, Tryz.ntmps57
    go_wp2_with fail
    go_ret
    exact ⟨by rw [HV.out]; rfl, Below.refl _ _⟩
  | false =>
    obtain ⟨v, hv⟩ : ∃ v, v = In.vB s.data.toList := ⟨_, rfl⟩
    rw [← hv] at HC HV
    clear hv
    cases v with
    | false =>
      go_enter Tryz.func57, Tryz.ntmps57
      go_wp2_with fail
      (with_reducible refine (HC.out _).mono ?_)
      rintro e w1 ⟨rfl, hb1⟩
      go_wp2_with fail
      go_ret
      exact ⟨by rw [HV.out]; rfl, hb1⟩
    | true =>
      obtain ⟨z, hz⟩ : ∃ z, z = Lib.containsAny s.data.toList [91, 93] := ⟨_, rfl⟩
      rw [← hz] at HD HV
      clear hz
      go_enter Tryz.func57, Tryz.ntmps57
      go_wp2_with fail
      (with_reducible refine (HC.out _).mono ?_)
      rintro e w1 ⟨rfl, hb1⟩
      go_wp2_with fail
      (with_reducible refine (HD.out _).mono ?_)
      rintro e w2 ⟨rfl, hb2⟩
      go_wp2_with fail
      go_ret
      exact ⟨by rw [HV.out]; rfl, hb1.trans (hb2.mono hb1.size)⟩
set_option maxHeartbeats 1000000 in
theorem key_any (s : ByteArray) (w : World) (hs : s.size ≤ 100000) : Calls Tryz.prog 79 #[.string s] w fun e w' => e = .returned (.bool (In.kB s.data.toList)) ∧ Below w.heap.size w w' := by
  have HC := Lib.hid (fun W => value_any s W hs)
  have HE := Lib.hid (fun W => Tryz.strings_Contains_one s 61 W)
  obtain ⟨u, hu⟩ : ∃ u, u = (s.data.toList == []) := ⟨_, rfl⟩
  have he : (s.toList == ([] : List UInt8)) = u := by rw [empty_eq, hu]
  have HV : Hid (In.kB s.data.toList = (!u && In.vB s.data.toList && !(s.data.toList.contains 61) && !(Lib.containsAny (s.data.toList.take 1) [91, 59, 35]))) := Lib.hid (by rw [In.kB, hu])
  cases u with
  | true =>
    clear hu hs
    go_enter Tryz.func79, Tryz.ntmps79
    go_wp2_with fail
    go_ret
    exact ⟨by rw [HV.out]; rfl, Below.refl _ _⟩
  | false =>
    have h0 : 0 < s.size := by
      rcases Nat.eq_zero_or_pos s.size with h | h
      · have e : s.data.toList = [] := List.eq_nil_of_length_eq_zero h
        rw [e] at hu; cases hu
      · exact h
    obtain ⟨v, hv⟩ : ∃ v, v = In.vB s.data.toList := ⟨_, rfl⟩
    rw [← hv] at HC HV
    clear hv hu hs
    cases v with
    | false =>
      go_enter Tryz.func79, Tryz.ntmps79
      go_wp2_with fail
      (with_reducible refine (HC.out _).mono ?_)
      rintro e w1 ⟨rfl, hb1⟩
      go_wp2_with fail
      go_ret
      exact ⟨by rw [HV.out]; rfl, hb1⟩
    | true =>
      obtain ⟨z, hz⟩ : ∃ z, z = s.data.toList.contains 61 := ⟨_, rfl⟩
      have hz2 : decide (0 ≤ Lib.indexByte s.data.toList 61) = z := by rw [hz]; exact (Lib.contains_iff_indexByte _ _).symm
      rw [← hz] at HV
      rw [hz2] at HE
      clear hz hz2
      cases z with
      | true =>
        go_enter Tryz.func79, Tryz.ntmps79
        go_wp2_with fail
        (with_reducible refine (HC.out _).mono ?_)
        rintro e w1 ⟨rfl, hb1⟩
        go_wp2_with fail
        (with_reducible refine (HE.out _).mono ?_)
        rintro e w2 ⟨rfl, rfl⟩
        go_wp2_with fail
        go_ret
        exact ⟨by rw [HV.out]; rfl, hb1⟩
      | false =>
        have h1 : (1 : Int) ≤ (s.size : Int) := by omega
        obtain ⟨t, ht⟩ : ∃ t : ByteArray, t = s.extract 0 1 := ⟨_, rfl⟩
        have htl : t.data.toList = s.data.toList.take 1 := by rw [ht, Lib.extract_eq]; rfl
        have HO := Lib.hid (fun W => containsAny_one t W (by
          have e : t.size = t.data.toList.length := rfl
          have e2 : s.size = s.data.toList.length := rfl
          rw [e, htl, List.length_take]; omega))
        rw [htl] at HO
        rw [ht] at HO
        obtain ⟨y, hy⟩ : ∃ y, y = Lib.containsAny (s.data.toList.take 1) [91, 59, 35] := ⟨_, rfl⟩
        rw [← hy] at HO HV
        clear hy ht htl
        go_enter Tryz.func79, Tryz.ntmps79
        go_wp2_with fail
        (with_reducible refine (HC.out _).mono ?_)
        rintro e w1 ⟨rfl, hb1⟩
        go_wp2_with fail
        (with_reducible refine (HE.out _).mono ?_)
        rintro e w2 ⟨rfl, rfl⟩
        go_wp2_with fail
        (with_reducible refine (HO.out _).mono ?_)
        rintro e w3 ⟨rfl, hb3⟩
        go_wp2_with fail
        go_ret
        exact ⟨by rw [HV.out]; rfl, hb1.trans (hb3.mono hb1.size)⟩
end Go.Proofs.YtapgaglkkgbgkaaGreatDoor.In
